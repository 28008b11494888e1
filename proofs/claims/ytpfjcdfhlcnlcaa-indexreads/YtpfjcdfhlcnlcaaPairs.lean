/- Contract of the document's Pairs: the two digits of each byte. -/
import Derived.Test.YtpfjcdfhlcnlcaaRows
import Derived.Test.YtpfjcdfhlcnlcaaBase
import Derived.Test.YtpfjcdfhlcnlcaaHexM
import Derived.Test.YtpfjcdfhlcnlcaaU8
import Derived.Test.YtpfjcdfhlcnlcaaVarM
import Derived.Test.YtpfjcdfhlcnlcaaBsM
import Derived.Maps.AppendAt
namespace Go.Proofs.Ytpfjcdfhlcnlcaa
open Go.RowKit
set_option linter.unusedVariables false

theorem Try.infoS : (Try.prog.info? 9).map (fun i => (i.zero, i.size, i.bytes)) = some (some (.string ByteArray.empty), 1, 16) := by kernel_rfl
/-- The two digits of a byte. -/
def pairS (m : Nat) : ByteArray := bs [dig (m / 16), dig (m % 16)]
def prs (n : Nat) : List Value := (List.range n).map fun m => Value.string (pairS m)
theorem prs_succ (n : Nat) : prs (n + 1) = prs n ++ [.string (pairS n)] := by simp [prs, List.range_succ]
theorem prs_at (n m : Nat) (h : m < n) : (prs n)[m]? = some (.string (pairS m)) := by simp [prs, h]
def one (i : Nat) : ByteArray := bs [dig i]
theorem one_one (i j : Nat) (hj : j < 16) : one i ++ one j = pairS (16 * i + j) := by
  unfold one pairS
  rw [show (16 * i + j) / 16 = i by omega, show (16 * i + j) % 16 = j by omega]
  have e : ∀ l : List Nat, (bs l).data.toList = l.map UInt8.ofNat := fun l => by simp [bs, strOfNums]
  have : ∀ a b : ByteArray, a.data.toList = b.data.toList → a = b := fun a b h => by cases a; cases b; congr 1; exact Array.toList_inj.1 h
  apply this
  rw [e, show (bs [dig i] ++ bs [dig j]).data.toList = (bs [dig i]).data.toList ++ (bs [dig j]).data.toList by simp [ByteArray.data_append], e, e]; rfl
def hexA : Array Value := ((List.range 16).map fun i => Value.string (one i)).toArray
theorem hexA_at (i : Nat) (h : i < 16) : hexA[i]? = some (.string (one i)) := by simp [hexA, h]
theorem one_size (i : Nat) : (one i).size = 1 := by simp [one, bs, strOfNums, ByteArray.size]

theorem hexA_lit : (#[.string ⟨#[48]⟩, .string ⟨#[49]⟩, .string ⟨#[50]⟩, .string ⟨#[51]⟩, .string ⟨#[52]⟩, .string ⟨#[53]⟩, .string ⟨#[54]⟩, .string ⟨#[55]⟩, .string ⟨#[56]⟩, .string ⟨#[57]⟩, .string ⟨#[97]⟩, .string ⟨#[98]⟩, .string ⟨#[99]⟩, .string ⟨#[100]⟩, .string ⟨#[101]⟩, .string ⟨#[102]⟩] : Array Value) = hexA := by kernel_rfl
/-- The row that is made, and one row of sixteen digits beside it. -/
def PW (w : World) (v : Value) (n : Nat) (wr : World) : Prop := wr.ownsRow w.heap.size 9 1 v n (prs n) ∧ Below w.heap.size w wr
def DigAt (g : Nat) (v : Value) (wr : World) : Prop := wr.heap[g]? = some (.cells hexA 9 (0, 0)) ∧ v.ownBlock ≠ some g
theorem DigAt.lt {g : Nat} {v : Value} {wr : World} (h : DigAt g v wr) : g < wr.heap.size := by
  rcases Nat.lt_or_ge g wr.heap.size with hl | hl
  · exact hl
  · have := h.1; rw [Array.getElem?_eq_none hl] at this; cases this
theorem DigAt.cell {g : Nat} {v : Value} {wr : World} (h : DigAt g v wr) {i : Nat} (hi : i < 16) : wr.cell? ⟨g, i, none⟩ = some (.string (one i)) := by
  rw [cell_of_row _ _ _ _ _ _ h.1, hexA_at i hi]
theorem DigAt.grown {g : Nat} {v v' : Value} {wr w1 : World} {o : Obj} (h : DigAt g v wr) (hg : (wr.alloc o).grownBy w1 v.ownBlock) (hv : v'.ownBlock = v.ownBlock ∨ v'.ownBlock = some (wr.heap.size + 1)) : DigAt g v' w1 := by
  have hl := h.lt
  refine ⟨?_, ?_⟩
  · rw [hg.block g (by rw [World.size_alloc]; omega) (fun e => h.2 e.symm), heap_alloc_old _ _ hl]; exact h.1
  · rcases hv with e | e
    · rw [e]; exact h.2
    · rw [e]; intro e2; simp at e2; omega
theorem DigAt.alloc {g : Nat} {v : Value} {wr : World} (h : DigAt g v wr) (o : Obj) : DigAt g v (wr.alloc o) := ⟨by rw [heap_alloc_old _ _ h.lt]; exact h.1, h.2⟩
theorem DigAt.new {wr : World} {v : Value} {base e sz n : Nat} {xs : List Value} (h : wr.ownsRow base e sz v n xs) : DigAt wr.heap.size v (wr.alloc (.cells hexA 9)) :=
  ⟨heap_alloc_new _ _, fun e => by have := (h.lt _ e).2; omega⟩

set_option maxRecDepth 100000 in
set_option maxHeartbeats 1000000 in
theorem pairs_any (w : World) :
    Calls Try.prog 54 #[] w fun e w' => ∃ g cap, e = .returned (.slice (some ⟨g, 0, none⟩) 256 cap) ∧ w'.ownsRow w.heap.size 9 1 (.slice (some ⟨g, 0, none⟩) 256 cap) 256 (prs 256) ∧ Below w.heap.size w w' := by
  obtain ⟨i0, hi, hz0, hz1, hz2⟩ := info_parts Try.infoS
  go_enter Try.func54, Try.ntmps54
  go_wp2
  rw [hexA_lit]
  have ho0 := World.ownsRow_made (base := w.heap.size) (e := 9) (size := 1) w #[] 0 (Nat.le_refl _) (by decide) rfl
  have hb0 : Below w.heap.size w (w.alloc (.cells #[] 9)) := (Below.refl _ w).alloc (Nat.le_refl _) _
  have hd0 := DigAt.new ho0
  have hp0 : PW w (.slice (some ⟨w.heap.size, 0, none⟩) 0 0) 0 ((w.alloc (.cells #[] 9)).alloc (.cells hexA 9)) := ⟨ho0.alloc _, hb0.alloc (by simp) _⟩
  rw [World.size_alloc] at hd0
  clear ho0 hb0
  obtain ⟨B, hB⟩ : ∃ B, B = w.heap.size := ⟨_, rfl⟩
  generalize (w.alloc (.cells #[] 9)).alloc (.cells hexA 9) = W at *
  obtain ⟨g7, hg7⟩ : ∃ g7, g7 = w.heap.size + 1 := ⟨_, rfl⟩
  rw [← hg7] at hd0 ⊢
  clear hg7 hB
  go_loopw [1, 9] (fun v x wr => ∃ i : Nat, i ≤ 16 ∧ x = .int .i64 i ∧ PW w v (16 * i) wr ∧ DigAt g7 v wr) (fun _ x _ => 16 - (intOf x).toNat)
  case atStart => exact ⟨0, by omega, rfl, hp0, hd0⟩
  case round =>
    clear hp0 hd0
    obtain ⟨i, hi16, rfl, hP, hD⟩ := hrel
    by_cases hlt : i < 16
    · have hc := hD.cell hlt
      have hlt' : (i : Int) < 16 := by omega
      have HP : Hid (PW _ _ _ _) := hP
      have HD : Hid (DigAt _ _ _) := hD
      clear hP hD
      go_wp2
      rw [hexA_lit]
      have hD2 := DigAt.new HP.out.1
      have hP2 : PW w u1 (16 * i + 0) (wr.alloc (.cells hexA 9)) := ⟨HP.out.1.alloc _, HP.out.2.alloc HP.out.2.size _⟩
      have hD1 := HD.out.alloc (.cells hexA 9)
      clear HP HD hc
      generalize wr.alloc (.cells hexA 9) = W2 at *
      generalize wr.heap.size = g13 at *
      go_loopw [1, 15] (fun v x wr => ∃ j : Nat, j ≤ 16 ∧ x = .int .i64 j ∧ PW w v (16 * i + j) wr ∧ DigAt g7 v wr ∧ DigAt g13 v wr) (fun _ x _ => 16 - (intOf x).toNat)
      case atStart => exact ⟨0, by omega, rfl, hP2, hD1, hD2⟩
      case round =>
        clear hP2 hD1 hD2
        obtain ⟨j, hj16, rfl, hP, hD1, hD2⟩ := hrel
        by_cases hltj : j < 16
        · have hc := hD2.cell hltj
          have hltj' : (j : Int) < 16 := by omega
          have HOO : Hid (_ = _) := one_one i j hltj
          have s1 : (one i).size ≤ 1 := by rw [one_size]; exact Nat.le_refl _
          have s2 : (one j).size ≤ 1 := by rw [one_size]; exact Nat.le_refl _
          obtain ⟨hown, hbel⟩ := hP
          have HD1 : Hid (DigAt _ _ _) := hD1
          have HD2 : Hid (DigAt _ _ _) := hD2
          clear hD1 hD2
          go_wp2_with (at_builtin; refine wpList_append_own_at _ rfl _ _ 28 rfl w.heap.size 9 i0 (.string ByteArray.empty) 1 16 Try.underlying28 hi hz0 hz1 hz2 rfl (by decide) _ _ _ rfl (hown.alloc _) ⟨wr.heap.size, 0, none⟩ 1 1 [.string (one i ++ one j)] rfl rfl (cell_one_new _ _ _) ?c2 ?c3 ?c4 ?c5 ?_)
          case c2 => intro u hu; simp at hu; subst hu; rfl
          case c3 => unfold maxLen; omega
          case c4 => omega
          case c5 => have := hbel.size; simp; omega
          intro v' w3 hown' hgrow _ hv
          have hb' := bel_append hbel (below_size hbel (Nat.le_refl _)) hown hgrow
          have ho' : w3.ownsRow w.heap.size 9 1 v' (16 * i + (j + 1)) (prs (16 * i + (j + 1))) := by
            rw [← Nat.add_assoc, prs_succ, ← HOO.out]; exact hown'
          have HP : Hid (PW _ _ _ _) := ⟨ho', hb'⟩
          have E1 : Hid (DigAt _ _ _) := HD1.out.grown hgrow hv
          have E2 : Hid (DigAt _ _ _) := HD2.out.grown hgrow hv
          clear hown' hgrow hown hbel hv HD1 HD2 hc ho' hb'
          go_wp2
          go_roundw
          case rel => exact ⟨j + 1, by omega, by go_num, HP.out, E1.out, E2.out⟩
          case measure => simp [intOf]; omega
        · obtain rfl : j = 16 := by omega
          have HP : Hid (PW _ _ _ _) := hP
          have HD : Hid (DigAt _ _ _) := hD1
          clear hP hD1 hD2
          go_wp2
          go_roundw
          case rel => exact ⟨i + 1, by omega, by go_num, HP.out, HD.out⟩
          case measure => simp [intOf]; omega
    · obtain rfl : i = 16 := by omega
      obtain ⟨g, cap, rfl, hg, hc, hgl⟩ := own_frm0 hP.1 (by omega)
      have HP : Hid (PW _ _ _ _) := hP
      clear hP hD
      go_wp2
      go_ret
      exact ⟨g, cap, rfl, HP.out.1, HP.out.2⟩
end Go.Proofs.Ytpfjcdfhlcnlcaa
