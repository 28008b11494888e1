/- Small facts on texts made of bytes, and on a row of one's own. A bitio.Source as it lies in memory, and the contracts of its inner method bit and of the helpers nearest, bytesFor. Contracts of bitio.Of and of the exported methods of a Source but Text. -/
import Derived.Test.YtclmjopppaknjaaQIntR
import Derived.Test.YtclmjopppaknjaaQTreeR
import Derived.Test.YtclmjopppaknjaaQVarM
import Derived.Laws.OwnMore
import Derived.Test.YtclmjopppaknjaaRows
import Derived.Test.YtclmjopppaknjaaQHBestN
import Derived.Test.YtclmjopppaknjaaQBitioM
import Derived.WalkSmall
import Derived.Deep.WholeRow
import Derived.Deep.QuietTactic
import Derived.BigQuiet
namespace Go.Proofs.Ytclmjopppaknjaa
open Go.RowKit
set_option linter.unusedVariables false
theorem extract_data (s : ByteArray) (a b : Nat) : (s.extract a b).data.toList = (s.data.toList.drop a).take (b - a) := by
  rw [ByteArray.data_extract, Array.toList_extract]
theorem few_data (s : ByteArray) (n : Nat) : (s.extract 0 n).data.toList = s.data.toList.take n := by rw [extract_data]; simp
theorem size_toList (s : ByteArray) : s.data.toList.length = s.size := by simp
theorem few_size (s : ByteArray) (n : Nat) : (s.extract 0 n).size = min n s.size := by
  rw [← size_toList, few_data, List.length_take, size_toList]
theorem ba_ext {a b : ByteArray} (h : a.data.toList = b.data.toList) : a = b := by
  cases a; cases b; congr 1; exact Array.toList_inj.1 h
theorem few_all (s : ByteArray) (n : Nat) (h : s.size ≤ n) : s.extract 0 n = s := by
  apply ba_ext; rw [few_data, List.take_of_length_le (by rw [size_toList]; exact h)]
theorem own_form {w : World} {base : Nat} {e : TypeId} {sz n : Nat} {v : Value} {xs : List Value} (h : w.ownsRow base e sz v n xs) (hn : 0 < n) : ∃ g cap, v = .slice (some ⟨g, 0, none⟩) n cap ∧ base ≤ g ∧ n ≤ cap ∧ g < w.heap.size := by
  have hl := h.lt
  rcases h.2 with ⟨_, h0⟩ | ⟨g, cap, cur, rfl, hg, _, hc, _⟩
  · omega
  · exact ⟨g, cap, rfl, hg, hc, (hl g rfl).2⟩
theorem bs_data2 (l : List Nat) : (bs l).data.toList = l.map UInt8.ofNat := by simp [bs, strOfNums]
theorem bs_append2 (a b : List Nat) : bs a ++ bs b = bs (a ++ b) := by
  apply ba_ext
  rw [bs_data2, List.map_append, ← bs_data2, ← bs_data2]
  simp [ByteArray.data_append]
theorem bs_size2 (l : List Nat) : (bs l).size = l.length := by rw [← size_toList, bs_data2, List.length_map]
theorem ofNat_map (q : List UInt8) : (q.map UInt8.toNat).map UInt8.ofNat = q := by simp [Function.comp_def]
end Go.Proofs.Ytclmjopppaknjaa
namespace Go.Proofs.Ytclmjopppaknjaa
open Go.RowKit
set_option linter.unusedVariables false

/-- The Source in block g: of the text s, p bits taken. -/
def SrcAt (w : World) (g : Nat) (s : ByteArray) (p : Nat) : Prop := w.heap[g]? = some (.cells #[.string s, .int .i64 (p : Int)] 115 (0, 0))
theorem SrcAt.lt {w : World} {g p : Nat} {s : ByteArray} (h : SrcAt w g s p) : g < w.heap.size := by
  rcases Nat.lt_or_ge g w.heap.size with hl | hl
  · exact hl
  · unfold SrcAt at h; rw [Array.getElem?_eq_none hl] at h; cases h
theorem SrcAt.kept {w w' : World} {g p : Nat} {s : ByteArray} {row : Option Nat} (h : SrcAt w g s p) (hg : w.grownBy w' row) (hne : some g ≠ row) : SrcAt w' g s p := (hg.block g h.lt hne).trans h
theorem SrcAt.below {w w' : World} {g p : Nat} {s : ByteArray} (h : SrcAt w g s p) (hb : Below w.heap.size w w') : SrcAt w' g s p := (hb.block g h.lt).trans h
theorem SrcAt.text {w : World} {g p : Nat} {s : ByteArray} (h : SrcAt w g s p) : w.cell? ⟨g, 0, none⟩ = some (.string s) := by rw [cell_of_row _ _ _ _ _ _ h]; rfl
theorem SrcAt.place {w : World} {g p : Nat} {s : ByteArray} (h : SrcAt w g s p) : w.cell? ⟨g, 1, none⟩ = some (.int .i64 (p : Int)) := by rw [cell_of_row _ _ _ _ _ _ h]; rfl
theorem SrcAt.free {w : World} {g p : Nat} {s : ByteArray} (h : SrcAt w g s p) (j : Nat) : w.frozen? ⟨g, j, none⟩ = false := frozen_of_row _ _ _ _ _ h
theorem SrcAt.set {w : World} {g p : Nat} {s : ByteArray} (h : SrcAt w g s p) (q : Nat) : SrcAt (w.setCell ⟨g, 1, none⟩ (.int .i64 (q : Int))) g s q := by
  unfold SrcAt; rw [heap_setCell_same _ _ _ _ _ _ h]; rfl
theorem SrcAt.drew {w : World} {g p : Nat} {s : ByteArray} (h : SrcAt w g s p) : SrcAt w.drew g s p := h
theorem SrcAt.drewN {w : World} {g p : Nat} {s : ByteArray} (h : SrcAt w g s p) (n : Nat) : SrcAt (w.drewN n) g s p := h

theorem ret_int {k : IntKind} {a b : Int} (h : a = b) : Ending.returned (.int k a) = .returned (.int k b) := by rw [h]
/-- Of the numbers 0 to m the one that is nearest to n. -/
def near (n m : Int) : Nat := (min (max n 0) m).toNat
theorem near_eq (n m : Int) (hm : 0 ≤ m) : (near n m : Int) = min (max n 0) m := by unfold near; omega
theorem near_le (n m : Int) : near n m ≤ m.toNat := by unfold near; omega
theorem nearest_any (n m : Int) (w : World) (hn : -9223372036854775808 ≤ n ∧ n ≤ 9223372036854775807) (hm : 0 ≤ m ∧ m ≤ 9223372036854775807) :
    Calls Try.prog 44 #[.int .i64 n, .int .i64 m] w fun e w' => e = .returned (.int .i64 (near n m : Int)) ∧ w' = w := by
  have HN : Hid ((near n m : Int) = min (max n 0) m) := near_eq n m hm.1
  go_enter Try.func44, Try.ntmps44
  go_wp2
  all_goals
    go_ret
    exact ⟨ret_int (by rw [HN.out]; omega), rfl⟩
theorem bytesFor_any (n : Nat) (w : World) (hn : n ≤ 9000000000000000000) :
    Calls Try.prog 46 #[.int .i64 (n : Int)] w fun e w' => e = .returned (.int .i64 (((n + 7) / 8 : Nat) : Int)) ∧ w' = w := by
  go_enter Try.func46, Try.ntmps46
  go_wp2
  go_ret
  exact ⟨rfl, rfl⟩
theorem bit_val (s : ByteArray) (p : Nat) (h : p / 8 < s.size) : bits BinOp.and IntKind.u32 ((s[p / 8].toNat : Int) / 2 ^ (p % 8) % 4294967296) 1 = ((sbit s.data.toList p).toNat : Int) := by
  have hb := s[p / 8].toNat_lt
  have hd : s[p / 8].toNat / 2 ^ (p % 8) < 256 := Nat.lt_of_le_of_lt (Nat.div_le_self _ _) hb
  have e : (s[p / 8].toNat : Int) / 2 ^ (p % 8) % 4294967296 = ((s[p / 8].toNat / 2 ^ (p % 8) : Nat) : Int) := by
    have e1 : ((s[p / 8].toNat / 2 ^ (p % 8) : Nat) : Int) = (s[p / 8].toNat : Int) / 2 ^ (p % 8) := by simp
    rw [← e1]
    generalize s[p / 8].toNat / 2 ^ (p % 8) = q at *
    omega
  have e2 : s.data.toList.getD (p / 8) 0 = s[p / 8] := by
    rw [List.getD_eq_getElem?_getD, List.getElem?_eq_getElem (by rw [size_toList]; exact h)]; rfl
  rw [e, show (1 : Int) = ((1 : Nat) : Int) by rfl, u32_and_nat _ _ (by omega) (by decide), nat_mask1]
  unfold sbit
  rw [e2, Nat.toNat_testBit]
set_option maxRecDepth 100000 in
set_option maxHeartbeats 400000 in
theorem bit_any (g : Nat) (s : ByteArray) (p : Nat) (w : World) (hS : SrcAt w g s p) (hs : s.size ≤ 140737488351232) (hp : p ≤ 4611686018427387904) :
    Calls Try.prog 64 #[.pointer (some ⟨g, 0, none⟩)] w fun e w' => e = .returned (.int .u32 ((sbit s.data.toList p).toNat : Int)) ∧ SrcAt w' g s (p + 1) ∧ w.grownBy w' (some g) := by
  have c1 := hS.place
  have c0 := hS.text
  have f1 := hS.free 1
  have HS : Hid (SrcAt (w.setCell ⟨g, 1, none⟩ (.int .i64 ((p + 1 : Nat) : Int))) g s (p + 1)) := hS.set (p + 1)
  have HG : Hid (w.grownBy (w.setCell ⟨g, 1, none⟩ (.int .i64 ((p + 1 : Nat) : Int))) (some g)) := gset (grefl w _) 1 _
  clear hS
  by_cases hlt : p / 8 < s.size
  · go_enter Try.func64, Try.ntmps64
    go_wp2
    go_ret
    refine ⟨ret_int ?_, HS.out, HG.out⟩
    exact bit_val s p hlt
  · have hb : sbit s.data.toList p = false := sbit_past _ _ (by rw [size_toList]; omega)
    go_enter Try.func64, Try.ntmps64
    go_wp2
    go_ret
    refine ⟨ret_int (by rw [hb]; rfl), HS.out, HG.out⟩
end Go.Proofs.Ytclmjopppaknjaa
namespace Go.Proofs.Ytclmjopppaknjaa
open Go.RowKit
set_option linter.unusedVariables false

theorem Try.zeroSrc : (Try.prog.info? 115).map (fun i => (i.zero, i.size)) = some (some (.agg #[.string ByteArray.empty, .int .i64 0]), 2) := by kernel_rfl
set_option maxRecDepth 100000 in
theorem srcOf_any (s : ByteArray) (w : World) :
    Calls Try.prog 25 #[.string s] w fun e w' => ∃ g, e = .returned (.pointer (some ⟨g, 0, none⟩)) ∧ SrcAt w' g s 0 ∧ w.heap.size ≤ g ∧ Below w.heap.size w w' := by
  have hz := (zero_of_info Try.zeroSrc).1
  go_enter Try.func25, Try.ntmps25
  go_wp2
  go_ret
  exact ⟨_, rfl, heap_alloc_new w _, Nat.le_refl _, (Below.refl _ w).alloc (Nat.le_refl _) _⟩
theorem place_any (g : Nat) (s : ByteArray) (p : Nat) (w : World) (hS : SrcAt w g s p) :
    Calls Try.prog 27 #[.pointer (some ⟨g, 0, none⟩)] w fun e w' => e = .returned (.int .i64 (p : Int)) ∧ w' = w := by
  have c1 := hS.place
  clear hS
  go_enter Try.func27, Try.ntmps27
  go_wp2
  go_ret
  exact ⟨rfl, rfl⟩
theorem short_any (g : Nat) (s : ByteArray) (p : Nat) (w : World) (hS : SrcAt w g s p) (hs : s.size ≤ 140737488351232) :
    Calls Try.prog 28 #[.pointer (some ⟨g, 0, none⟩)] w fun e w' => e = .returned (.bool (decide (8 * s.size < p))) ∧ ∃ n, w' = w.drewN n := by
  have c1 := hS.place
  have c0 := hS.text
  clear hS
  have HD : Hid (decide ((8 * (s.size : Int)) < (p : Int)) = decide (8 * s.size < p)) := by apply decide_eq_decide.2; omega
  go_enter Try.func28, Try.ntmps28
  go_wp2
  go_quiet (fail)
  go_wp2
  go_ret
  refine ⟨?_, nq, rfl⟩
  show Ending.returned (.bool (decide ((8 * (s.size : Int)) < (p : Int)))) = _
  rw [HD.out]
theorem near32 (n : Int) (m : Nat) (w : World) (hn : -9223372036854775808 ≤ n ∧ n ≤ 9223372036854775807) (hm : m = near n 32) :
    Calls Try.prog 44 #[.int .i64 n, .int .i64 32] w fun e w' => e = .returned (.int .i64 (m : Int)) ∧ w' = w := by
  subst hm; exact nearest_any n 32 w hn (by decide)
theorem or_val (a : Nat) (f : Bool) (k : Nat) (ha : a < 4294967296) (hk : k < 32) : bits .or .u32 (a : Int) ((f.toNat : Int) * 2 ^ k % 4294967296) = ((a ||| f.toNat * 2 ^ k : Nat) : Int) := by
  have h : f.toNat * 2 ^ k < 4294967296 := by
    have := Nat.pow_lt_pow_right (a := 2) (by decide) hk
    cases f
    · simp
    · simp; omega
  have e : (f.toNat : Int) * 2 ^ k % 4294967296 = ((f.toNat * 2 ^ k : Nat) : Int) := by
    have e1 : ((f.toNat * 2 ^ k : Nat) : Int) = (f.toNat : Int) * 2 ^ k := by simp
    rw [← e1]
    generalize f.toNat * 2 ^ k = q at *
    omega
  rw [e, u32_or_nat _ _ ha h]
set_option maxRecDepth 100000 in
set_option maxHeartbeats 400000 in
theorem take_any (g : Nat) (s : ByteArray) (p : Nat) (n : Int) (w : World) (hS : SrcAt w g s p) (hs : s.size ≤ 140737488351232) (hp : p ≤ 4000000000000000000) (hn : -9223372036854775808 ≤ n ∧ n ≤ 9223372036854775807) :
    Calls Try.prog 47 #[.pointer (some ⟨g, 0, none⟩), .int .i64 n] w fun e w' => e = .returned (.int .u32 (takeN (fun i => sbit s.data.toList (p + i)) (near n 32) : Int)) ∧ SrcAt w' g s (p + near n 32) ∧ w.grownBy w' (some g) := by
  have hm : near n 32 ≤ 32 := near_le n 32
  obtain ⟨m, hme⟩ : ∃ m, m = near n 32 := ⟨_, rfl⟩
  have HN : Hid (∀ W : World, Calls Try.prog 44 #[.int .i64 n, .int .i64 32] W fun e w' => e = .returned (.int .i64 (m : Int)) ∧ w' = W) := fun W => near32 n m W hn hme
  rw [← hme] at hm ⊢
  clear hme
  go_enter Try.func47, Try.ntmps47
  go_wp2_with (go_at_call 44; refine (HN.out _).mono ?_; rintro e w1 ⟨rfl, rfl⟩)
  go_loopw [5, 9] (fun o i wr => ∃ k : Nat, k ≤ m ∧ i = .int .i64 (k : Int) ∧ o = .int .u32 (takeN (fun i => sbit s.data.toList (p + i)) k : Int) ∧ SrcAt wr g s (p + k) ∧ w1.grownBy wr (some g)) (fun _ i _ => m - (intOf i).toNat)
  case atStart => exact ⟨0, by omega, rfl, rfl, hS, grefl _ _⟩
  case round =>
    clear hS
    obtain ⟨k, hk, rfl, rfl, hS, hG⟩ := hrel
    by_cases hlt : k < m
    · have HT : Hid (_ = _) := takeN_or (fun i => sbit s.data.toList (p + i)) k
      have hb := takeN_lt32 (fun i => sbit s.data.toList (p + i)) k (by omega)
      generalize takeN (fun i => sbit s.data.toList (p + i)) k = a at *
      go_wp2_with fail
      refine (bit_any g s (p + k) _ hS hs (by omega)).mono ?_
      rintro e w2 ⟨rfl, hS2, hG2⟩
      go_wp2
      go_roundw
      case rel => exact ⟨k + 1, by omega, by go_num, by rw [or_val _ _ _ hb (by omega), HT.out], hS2, gtrans hG hG2⟩
      case measure => simp [intOf]; omega
    · obtain rfl : k = m := by omega
      go_wp2
      go_ret
      exact ⟨rfl, hS, hG⟩
end Go.Proofs.Ytclmjopppaknjaa
