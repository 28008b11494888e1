/- Small facts on a range over a text's runes. -/
import Derived.Test.YtkgjepgaekbniaaDoorRows
import Derived.Test.YtkgjepgaekbniaaDoorQBase
import Derived.Test.YtkgjepgaekbniaaDoorQRunM
import Derived.Lib.OthersKept
namespace Go.Proofs.YtkgjepgaekbniaaDoor
open Go.RowKit
set_option linter.unusedVariables false

/-- The model's own decoding, on the bytes that are left. -/
theorem dec_at (s : ByteArray) (pos : Nat) (h : pos < s.size) : Utf8.decode s pos = rn (s.data.toList.drop pos) := by
  have hne : s.data.toList.drop pos ≠ [] := fun e => by
    have := congrArg List.length e
    rw [List.length_drop] at this
    simp at this
    have : s.data.size = s.size := rfl
    omega
  rw [rn_eq hne]
  unfold Lib.decodeL
  rw [Lib.decode_at, Lib.decode_at]
  have e : ∀ i, s.get! (pos + i) = (ByteArray.mk (s.data.toList.drop pos).toArray).get! (0 + i) := fun i => by
    rw [Nat.zero_add, get_list (s.data.toList.drop pos) i, List.getD_eq_getElem?_getD, List.getElem?_drop]
    show s.data[pos + i]! = _
    rw [getElem!_def, Array.getElem?_toList]
    cases s.data[pos + i]? <;> rfl
  have e0 := e 0
  rw [Nat.add_zero] at e0
  rw [e0, e 1, e 2, e 3]
  have hsz : (ByteArray.mk (s.data.toList.drop pos).toArray).size = s.size - pos := by
    show (s.data.toList.drop pos).toArray.size = _
    simp
  rw [hsz]
  simp only [Nat.sub_zero]
theorem left_ne (s : ByteArray) (pos : Nat) (h : pos < s.size) : s.data.toList.drop pos ≠ [] := fun e => by
  have := congrArg List.length e
  rw [List.length_drop] at this
  simp at this
  have : s.data.size = s.size := rfl
  omega
theorem left_end (s : ByteArray) (pos : Nat) (h : ¬ pos < s.size) : s.data.toList.drop pos = [] :=
  List.drop_of_length_le (by simp; have : s.data.size = s.size := rfl; omega)
theorem dec_width (s : ByteArray) (pos : Nat) (h : pos < s.size) : 1 ≤ (Utf8.decode s pos).2 ∧ pos + (Utf8.decode s pos).2 ≤ s.size := by
  rw [dec_at s pos h]
  have := rn_width _ (left_ne s pos h)
  rw [List.length_drop] at this
  have e : s.data.toList.length = s.size := by simp
  omega
theorem countL_at (s : ByteArray) (pos : Nat) (h : pos < s.size) : countL (s.data.toList.drop pos) = countL (s.data.toList.drop (pos + (Utf8.decode s pos).2)) + 1 := by
  rw [countL_cons (left_ne s pos h), List.drop_drop, dec_at s pos h]
theorem countL_le : ∀ (n : Nat) (l : List UInt8), l.length ≤ n → countL l ≤ l.length
  | 0, l, h => by
    obtain rfl : l = [] := List.length_eq_zero_iff.1 (by omega)
    rw [countL_nil]; exact Nat.zero_le _
  | n + 1, l, h => by
    by_cases e : l = []
    · subst e; rw [countL_nil]; exact Nat.zero_le _
    · have h1 := drop_less l e
      have := countL_le n _ (show (l.drop (rn l).2).length ≤ n by omega)
      rw [countL_cons e]
      omega
theorem cutL_at (s : ByteArray) (pos n : Nat) (h : pos < s.size) : cutL (n + 1) (s.data.toList.drop pos) = (s.data.toList.drop pos).take (Utf8.decode s pos).2 ++ cutL n (s.data.toList.drop (pos + (Utf8.decode s pos).2)) := by
  rw [cutL_cons n (left_ne s pos h), List.drop_drop, dec_at s pos h]
/-- How many runes are asked for. -/
def natN (n : Int) : Nat := n.toNat
theorem take_add_drop (l : List UInt8) (p w : Nat) : l.take p ++ (l.drop p).take w = l.take (p + w) := by
  rw [List.take_add]
theorem ext_take {s : ByteArray} {p : Nat} {l : List UInt8} (h : s.data.toList.take p = l) : s.extract 0 p = ⟨l.toArray⟩ := by
  obtain ⟨d⟩ := s
  have e : (ByteArray.mk d).extract 0 p = ⟨d.extract 0 p⟩ := by
    cases hh : (ByteArray.mk d).extract 0 p with
    | mk x =>
      have := ByteArray.data_extract (a := ByteArray.mk d) (b := 0) (e := p)
      rw [hh] at this
      simp at this
      rw [this]
  rw [e]
  congr 1
  apply Array.toList_inj.1
  rw [Array.toList_extract]
  simpa using h
theorem cutL_more : ∀ (n : Nat) (l : List UInt8), countL l ≤ n → cutL n l = l
  | 0, l, h => by
    by_cases e : l = []
    · subst e; rfl
    · rw [countL_cons e] at h; omega
  | n + 1, l, h => by
    by_cases e : l = []
    · subst e; rw [cutL_nil]
    · rw [countL_cons e] at h
      rw [cutL_cons n e, cutL_more n _ (by omega), List.take_append_drop]
end Go.Proofs.YtkgjepgaekbniaaDoor
