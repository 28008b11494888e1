/- Contract: walk.Size; what the document fixes of layer 13. -/
import Derived.Test.YtmjfcneofpddiaaDoorQWkW
namespace Go.Proofs.YtmjfcneofpddiaaDoor
open Go.RowKit Go.Maps
set_option linter.unusedVariables false
set_option linter.unusedSimpArgs false

def sizeI (l : List It) : Nat := (l.map fun x => if x.k = 2 then x.d.length else 0).sum
theorem sizeI_cons (x : It) (l : List It) : sizeI (x :: l) = (if x.k = 2 then x.d.length else 0) + sizeI l := by simp [sizeI]
theorem sizeI_snoc (l : List It) (x : It) : sizeI (l ++ [x]) = sizeI l + (if x.k = 2 then x.d.length else 0) := by simp [sizeI]
theorem sizeI_take (l : List It) (k : Nat) : sizeI (l.take k) ≤ sizeI l := by
  conv => rhs; rw [← List.take_append_drop k l]
  unfold sizeI
  rw [List.map_append, List.sum_append_nat]
  omega
set_option maxRecDepth 100000 in
set_option maxHeartbeats 2000000 in
theorem size_any (v : Value) (l : List It) (w : World) (hR : IV w v l) (hl : l.length ≤ 1000000) (hs : sizeI l ≤ 4611686018427387904) :
    Calls Tryd.prog 14 #[v] w fun e w' => e = .returned (.int .i64 (sizeI l : Int)) ∧ Below w.heap.size w w' := by
  have HIV : Hid (IV w v l) := hR
  obtain ⟨a0, cap, rfl, -, -, -⟩ := hR
  obtain ⟨n, hn⟩ : ∃ n, n = l.length := ⟨_, rfl⟩
  have HN : Hid (n = l.length) := hn
  rw [← hn] at hl HIV
  rw [← hn]
  clear hn
  have HTK : Hid (∀ k, sizeI (l.take k) ≤ 4611686018427387904) := fun k => Nat.le_trans (sizeI_take l k) hs
  clear hs
  go_enter Tryd.func14, Tryd.ntmps14
  go_wp2
  go_loopw [3, 8] (fun s i wr => ∃ (k : Nat), k ≤ n ∧ i = .int .i64 (k : Int) ∧ s = .int .i64 (sizeI (l.take k) : Int) ∧ Below w.heap.size w wr) (fun _ i _ => n - (intOf i).toNat)
  case atStart => exact ⟨0, Nat.zero_le _, rfl, rfl, Below.refl _ _⟩
  case round =>
    obtain ⟨k, hk, rfl, rfl, hb⟩ := hrel
    have HB : Hid (Below w.heap.size w wr) := hb
    clear hb
    by_cases hlt : k < n
    · obtain ⟨x, hx⟩ : ∃ x, l[k]? = some x := ⟨_, List.getElem?_eq_getElem (by rw [← HN.out]; exact hlt)⟩
      have hlti : (k : Int) < (n : Int) := by omega
      obtain ⟨g, o, rfl, hg, -, hcap, c0, c1, c2, c3, c4⟩ := (HIV.out.below HB.out).at hx
      have hT : sizeI (l.take (k + 1)) = sizeI (l.take k) + (if x.k = 2 then x.d.length else 0) := by rw [List.take_add_one, hx]; exact sizeI_snoc _ _
      have hT1 := HTK.out (k + 1)
      have hT0 := HTK.out k
      have hzo := zeroIt
      have hds := mkB_size x.d
      have HB2 : Hid (Below w.heap.size w (wr.alloc (.cells #[.string (mkB x.p), .int .i64 x.k, .int .i64 x.m, .int .i64 x.t, .string (mkB x.d)] 25))) := HB.out.alloc HB.out.size _
      by_cases hk2 : x.k = 2
      · rw [if_pos hk2] at hT
        rw [hk2] at c1 HB2
        obtain ⟨s0, hs0⟩ : ∃ s0, s0 = sizeI (l.take k) := ⟨_, rfl⟩
        obtain ⟨dl, hdl⟩ : ∃ dl, dl = x.d.length := ⟨_, rfl⟩
        rw [← hs0] at hT hT0
        rw [← hdl] at hT hds
        have HT : Hid (sizeI (l.take (k + 1)) = s0 + dl) := hT
        have hb1 : s0 + dl ≤ 4611686018427387904 := by omega
        rw [← hs0]
        clear hT hT1 hs0 hdl hk2
        generalize mkB x.p = XP at *
        generalize mkB x.d = XD at *
        generalize x.m = xm at *
        generalize x.t = xt at *
        go_wp2
        go_roundw
        case rel => exact ⟨k + 1, by omega, by go_num, by rw [HT.out]; go_num, HB2.out⟩
        case measure => simp [intOf]; omega
      · rw [if_neg hk2, Nat.add_zero] at hT
        have hkb : (x.k == 2) = false := by rw [beq_eq_false_iff_ne]; exact hk2
        have HT : Hid (sizeI (l.take (k + 1)) = sizeI (l.take k)) := hT
        clear hT hT1 hk2
        obtain ⟨s0, hs0⟩ : ∃ s0, s0 = sizeI (l.take k) := ⟨_, rfl⟩
        rw [← hs0] at HT hT0
        rw [← hs0]
        clear hs0
        generalize mkB x.p = XP at *
        generalize mkB x.d = XD at *
        generalize x.m = xm at *
        generalize x.t = xt at *
        generalize x.k = xk at *
        go_wp2
        go_roundw
        case rel => exact ⟨k + 1, by omega, by go_num, by rw [HT.out], HB2.out⟩
        case measure => simp [intOf]; omega
    · have hlti : ¬ (k : Int) < (n : Int) := by omega
      have HE : Hid (sizeI (l.take k) = sizeI l) := by unfold Hid; rw [List.take_of_length_le (by rw [← HN.out]; omega)]
      go_wp2
      go_ret
      rw [HE.out]
      exact ⟨rfl, HB.out⟩
theorem iv_made {w : World} {b : Nat} (l : List It) {arr : Array Value} {T : TypeId} (h : w.heap[b]? = some (.cells arr T (0, 0))) (ha : arr.toList = itsC l) : IV w (.slice (some ⟨b, 0, none⟩) l.length l.length) l := by
  refine ⟨_, _, rfl, Nat.le_refl _, fun e => (by cases e), fun _ => ⟨b, 0, rfl, (Array.getElem?_eq_some_iff.1 h).1, fun j u hu => ?_⟩⟩
  unfold World.cell?
  rw [h]
  simp only [Nat.zero_add]
  rw [← ha] at hu
  simpa using hu
def dirI : It := ⟨[97], 1, 0, 0, []⟩
def fileI : It := ⟨[97, 47, 98], 2, 0, 0, []⟩
theorem fit_dir : fitI dirI = 0 := by decide +kernel
theorem fit_file : fitI fileI = 0 := by decide +kernel
theorem perm_one {a : It} {l : List It} (h : l.Perm [a]) : l = [a] := List.perm_singleton.1 h
theorem perm_two {a b : It} {l : List It} (h : l.Perm [a, b]) : l = [a, b] ∨ l = [b, a] := by
  have hl := h.length_eq
  match l, hl with
  | [x, y], _ =>
    have hx : x ∈ [a, b] := h.mem_iff.1 List.mem_cons_self
    rcases List.mem_cons.1 hx with rfl | hx
    · left
      have := (List.perm_cons x).1 h
      rw [List.perm_singleton.1 this]
    · rw [List.mem_singleton] at hx
      subst hx
      right
      have h2 : [x, y].Perm [x, a] := h.trans (List.Perm.swap _ _ _)
      have := (List.perm_cons x).1 h2
      rw [List.perm_singleton.1 this]
theorem chk_file {z : Int} (h : ChkP [fileI] z) : z = 7 := by
  rcases h with ⟨h, _⟩ | ⟨_, h, _⟩ | ⟨_, _, l', h1, h2, rfl⟩
  · simp at h
  · exact absurd ((fstFit_zero _).2 (fun x hx => by rw [List.mem_singleton] at hx; subst hx; exact fit_file)) h
  · rw [perm_one h1]; decide +kernel
theorem chk_both {z : Int} (h : ChkP [fileI, dirI] z) : z = 0 := by
  rcases h with ⟨h, _⟩ | ⟨_, h, _⟩ | ⟨_, _, l', h1, h2, rfl⟩
  · simp at h
  · refine absurd ((fstFit_zero _).2 (fun x hx => ?_)) h
    rcases List.mem_cons.1 hx with rfl | hx
    · exact fit_file
    · rw [List.mem_singleton] at hx; subst hx; exact fit_dir
  · rcases perm_two h1 with rfl | rfl
    · exfalso
      unfold Srt at h2
      have := (List.pairwise_cons.1 h2).1 dirI List.mem_cons_self
      exact this (by decide +kernel)
    · decide +kernel
end Go.Proofs.YtmjfcneofpddiaaDoor
