/- Contracts of path.Count and path.Cut: rune by rune. -/
import Derived.Test.YtmflekhhakadeaaDoorRows
import Derived.Test.YtmflekhhakadeaaDoorBase
import Derived.Test.YtmflekhhakadeaaDoorClone
import Derived.Test.YtmflekhhakadeaaDoorRunM
import Derived.Lib.OthersKept
namespace Go.Proofs.YtmflekhhakadeaaDoor
open Go.RowKit
set_option linter.unusedVariables false

/-- The model's own decoding, on the bytes that are left. -/
theorem dec_at (s : ByteArray) (pos : Nat) (h : pos < s.size) : Utf8.decode s pos = rn (s.data.toList.drop pos) := by
  have hne : s.data.toList.drop pos ≠ [] := fun e => by
    have := congrArg List.length e
    rw [List.length_drop] at this
    simp at this
    have : s.data.size = s.size := rfl
    omega
  rw [rn_eq hne]
  unfold Lib.decodeL
  rw [Lib.decode_at, Lib.decode_at]
  have e : ∀ i, s.get! (pos + i) = (ByteArray.mk (s.data.toList.drop pos).toArray).get! (0 + i) := fun i => by
    rw [Nat.zero_add, get_list (s.data.toList.drop pos) i, List.getD_eq_getElem?_getD, List.getElem?_drop]
    show s.data[pos + i]! = _
    rw [getElem!_def, Array.getElem?_toList]
    cases s.data[pos + i]? <;> rfl
  have e0 := e 0
  rw [Nat.add_zero] at e0
  rw [e0, e 1, e 2, e 3]
  have hsz : (ByteArray.mk (s.data.toList.drop pos).toArray).size = s.size - pos := by
    show (s.data.toList.drop pos).toArray.size = _
    simp
  rw [hsz]
  simp only [Nat.sub_zero]
theorem left_ne (s : ByteArray) (pos : Nat) (h : pos < s.size) : s.data.toList.drop pos ≠ [] := fun e => by
  have := congrArg List.length e
  rw [List.length_drop] at this
  simp at this
  have : s.data.size = s.size := rfl
  omega
theorem left_end (s : ByteArray) (pos : Nat) (h : ¬ pos < s.size) : s.data.toList.drop pos = [] :=
  List.drop_of_length_le (by simp; have : s.data.size = s.size := rfl; omega)
theorem dec_width (s : ByteArray) (pos : Nat) (h : pos < s.size) : 1 ≤ (Utf8.decode s pos).2 ∧ pos + (Utf8.decode s pos).2 ≤ s.size := by
  rw [dec_at s pos h]
  have := rn_width _ (left_ne s pos h)
  rw [List.length_drop] at this
  have e : s.data.toList.length = s.size := by simp
  omega
theorem countL_at (s : ByteArray) (pos : Nat) (h : pos < s.size) : countL (s.data.toList.drop pos) = countL (s.data.toList.drop (pos + (Utf8.decode s pos).2)) + 1 := by
  rw [countL_cons (left_ne s pos h), List.drop_drop, dec_at s pos h]
theorem countL_le : ∀ (n : Nat) (l : List UInt8), l.length ≤ n → countL l ≤ l.length
  | 0, l, h => by
    obtain rfl : l = [] := List.length_eq_zero_iff.1 (by omega)
    rw [countL_nil]; exact Nat.zero_le _
  | n + 1, l, h => by
    by_cases e : l = []
    · subst e; rw [countL_nil]; exact Nat.zero_le _
    · have h1 := drop_less l e
      have := countL_le n _ (show (l.drop (rn l).2).length ≤ n by omega)
      rw [countL_cons e]
      omega
set_option maxHeartbeats 1000000 in
set_option maxRecDepth 100000 in
theorem pcount_any (s : ByteArray) (w : World) (hs : s.size ≤ 1000000) :
    Calls Tryd.prog 23 #[.string s] w fun e w' => e = .returned (.int .i64 (countL s.data.toList : Int)) ∧ Below w.heap.size w w' := by
  have hcl := countL_le _ s.data.toList (Nat.le_refl _)
  have hsl : s.data.toList.length = s.size := by simp
  rw [hsl] at hcl
  go_enter Tryd.func23, Tryd.ntmps23
  go_wp2
  go_loopw [3] (fun v wr => ∃ (pos k : Nat), v = .int .i64 (k : Int) ∧ wr.heap[w.heap.size]? = some (.stringIter s pos) ∧ pos ≤ s.size ∧ k + countL (s.data.toList.drop pos) = countL s.data.toList ∧ Below w.heap.size w wr) (fun _ wr => s.size - wr.iterPos w.heap.size)
  case atStart =>
    refine ⟨0, 0, rfl, ?_, Nat.zero_le _, by simp, (Below.refl _ w).alloc (Nat.le_refl _) _⟩
    have := World.iter_heap w s 0
    simpa using this
  case round =>
    obtain ⟨pos, k, rfl, hit, hp, hk, hb⟩ := hrel
    by_cases hlt : pos < s.size
    · have hnx : ∀ ty, (Instr.next (.pointer (some ⟨w.heap.size, 0, none⟩)) true ty).run Tryd.prog wr = _ := fun ty => Lib.run_next_any_at wr w.heap.size s pos ty hit hlt
      have hw := dec_width s pos hlt
      have HC : Hid (_ = _) := countL_at s pos hlt
      have hit2 := Lib.iterAt_heap wr w.heap.size s pos (pos + (Utf8.decode s pos).2) hit
      have hb2 := Lib.below_iterAt hb (k := w.heap.size) (Nat.le_refl _) s (pos + (Utf8.decode s pos).2)
      have HK : Hid (k + countL (s.data.toList.drop pos) = countL s.data.toList) := hk
      have hk9 : k ≤ 1000000 := by omega
      clear hk
      go_wp2
      go_roundw
      case rel => exact ⟨pos + (Utf8.decode s pos).2, k + 1, by go_num, hit2, hw.2, by have := HK.out; have := HC.out; omega, hb2⟩
      case measure =>
        simp only [World.iterPos, hit2, hit]
        omega
    · have hnx : ∀ ty, (Instr.next (.pointer (some ⟨w.heap.size, 0, none⟩)) true ty).run Tryd.prog wr = _ := fun ty => Lib.run_next_end_at wr w.heap.size s pos ty hit hlt
      have HK : Hid (k = countL s.data.toList) := by unfold Hid; rw [left_end s pos hlt, countL_nil] at hk; simpa using hk
      clear hk
      go_wp2
      go_ret
      rw [← HK.out]
      exact ⟨rfl, hb⟩
theorem cutL_at (s : ByteArray) (pos n : Nat) (h : pos < s.size) : cutL (n + 1) (s.data.toList.drop pos) = (s.data.toList.drop pos).take (Utf8.decode s pos).2 ++ cutL n (s.data.toList.drop (pos + (Utf8.decode s pos).2)) := by
  rw [cutL_cons n (left_ne s pos h), List.drop_drop, dec_at s pos h]
/-- How many runes are asked for. -/
def natN (n : Int) : Nat := n.toNat
theorem take_add_drop (l : List UInt8) (p w : Nat) : l.take p ++ (l.drop p).take w = l.take (p + w) := by
  rw [List.take_add]
theorem ext_take {s : ByteArray} {p : Nat} {l : List UInt8} (h : s.data.toList.take p = l) : s.extract 0 p = ⟨l.toArray⟩ := by
  obtain ⟨d⟩ := s
  have e : (ByteArray.mk d).extract 0 p = ⟨d.extract 0 p⟩ := by
    cases hh : (ByteArray.mk d).extract 0 p with
    | mk x =>
      have := ByteArray.data_extract (a := ByteArray.mk d) (b := 0) (e := p)
      rw [hh] at this
      simp at this
      rw [this]
  rw [e]
  congr 1
  apply Array.toList_inj.1
  rw [Array.toList_extract]
  simpa using h
theorem cutL_more : ∀ (n : Nat) (l : List UInt8), countL l ≤ n → cutL n l = l
  | 0, l, h => by
    by_cases e : l = []
    · subst e; rfl
    · rw [countL_cons e] at h; omega
  | n + 1, l, h => by
    by_cases e : l = []
    · subst e; rw [cutL_nil]
    · rw [countL_cons e] at h
      rw [cutL_cons n e, cutL_more n _ (by omega), List.take_append_drop]
set_option maxHeartbeats 1000000 in
set_option maxRecDepth 100000 in
theorem pcut_any (s : ByteArray) (n : Int) (w : World) (hs : s.size ≤ 1000000) (hn0 : -9223372036854775808 ≤ n) (hn1 : n ≤ 9223372036854775807) :
    Calls Tryd.prog 25 #[.string s, .int .i64 n] w fun e w' => e = .returned (.string ⟨(cutL (natN n) s.data.toList).toArray⟩) ∧ Below w.heap.size w w' := by
  go_enter Tryd.func25, Tryd.ntmps25
  go_wp2
  go_loopw [1] (fun v wr => ∃ (pos : Nat) (m : Int), v = .int .i64 m ∧ wr.heap[w.heap.size]? = some (.stringIter s pos) ∧ pos ≤ s.size ∧ m ≤ 9223372036854775807 ∧ (m < 1 → m = n ∧ pos = 0 ∨ m = 0) ∧ -9223372036854775808 ≤ m ∧ s.data.toList.take pos ++ cutL (natN m) (s.data.toList.drop pos) = cutL (natN n) s.data.toList ∧ Below w.heap.size w wr) (fun _ wr => s.size - wr.iterPos w.heap.size)
  case atStart =>
    refine ⟨0, n, rfl, ?_, Nat.zero_le _, hn1, fun h => .inl ⟨rfl, rfl⟩, hn0, by simp, (Below.refl _ w).alloc (Nat.le_refl _) _⟩
    have := World.iter_heap w s 0
    simpa using this
  case round =>
    obtain ⟨pos, m, rfl, hit, hp, hm1, hm2, hm0, hk, hb⟩ := hrel
    by_cases hlt : pos < s.size
    · have hnx : ∀ ty, (Instr.next (.pointer (some ⟨w.heap.size, 0, none⟩)) true ty).run Tryd.prog wr = _ := fun ty => Lib.run_next_any_at wr w.heap.size s pos ty hit hlt
      have hw := dec_width s pos hlt
      have hit2 := Lib.iterAt_heap wr w.heap.size s pos (pos + (Utf8.decode s pos).2) hit
      have hb2 := Lib.below_iterAt hb (k := w.heap.size) (Nat.le_refl _) s (pos + (Utf8.decode s pos).2)
      have hwz : w.heap.size ≤ (wr.iterAt w.heap.size s (pos + (Utf8.decode s pos).2)).heap.size := by rw [Lib.iterAt_size]; exact hb.size
      by_cases h1 : m < 1
      · have HE : Hid (s.extract 0 pos = ⟨(cutL (natN n) s.data.toList).toArray⟩) := by
          apply ext_take
          rw [← hk, show natN m = 0 by unfold natN; omega, cutL, List.append_nil]
        have hez : (s.extract 0 pos).size ≤ 1000000 := by rw [ByteArray.size_extract]; omega
        clear hk hm2
        go_wp2_with fail
        refine (clone_any (s.extract 0 pos) _ (by omega)).mono ?_
        rintro e w1 ⟨rfl, hb3⟩
        go_wp2
        go_ret
        exact ⟨by rw [HE.out]; rfl, hb2.trans (hb3.mono hwz)⟩
      · have HK : Hid (s.data.toList.take pos ++ cutL (natN m) (s.data.toList.drop pos) = cutL (natN n) s.data.toList) := hk
        have HC : Hid (_ = _) := cutL_at s pos (natN (m - 1)) hlt
        clear hk hm2
        go_wp2
        go_roundw
        case rel =>
          refine ⟨pos + (Utf8.decode s pos).2, m - 1, rfl, hit2, hw.2, by omega, fun h => .inr (by omega), by omega, ?_, hb2⟩
          rw [← HK.out, show natN m = natN (m - 1) + 1 by unfold natN; omega, HC.out, ← List.append_assoc, take_add_drop]
        case measure =>
          simp only [World.iterPos, hit2, hit]
          omega
    · have hnx : ∀ ty, (Instr.next (.pointer (some ⟨w.heap.size, 0, none⟩)) true ty).run Tryd.prog wr = _ := fun ty => Lib.run_next_end_at wr w.heap.size s pos ty hit hlt
      have hwz : w.heap.size ≤ wr.heap.size := hb.size
      have HE : Hid (s = ⟨(cutL (natN n) s.data.toList).toArray⟩) := by
        rw [left_end s pos hlt, cutL_nil, List.append_nil, List.take_of_length_le (by simp; have : s.data.size = s.size := rfl; omega)] at hk
        unfold Hid
        rw [← hk]
      clear hk hm2
      go_wp2_with fail
      refine (clone_any s _ (by omega)).mono ?_
      rintro e w1 ⟨rfl, hb3⟩
      go_wp2
      go_ret
      exact ⟨by rw [← HE.out]; rfl, hb.trans (hb3.mono hwz)⟩
end Go.Proofs.YtmflekhhakadeaaDoor
