/- What stands for each text: its length, itself, its sum, its cyclic sum; and these one behind the other. -/
import Derived.Test.YtkphgjaklkfcfabDoorDigest
import Derived.Test.YtkphgjaklkfcfabDoorBsM
import Derived.Test.YtkphgjaklkfcfabDoorGetA
namespace Go.Proofs.YtkphgjaklkfcfabDoor
open Go.RowKit
set_option linter.unusedVariables false

theorem putN_get4 (c : Nat) (h : c < 4294967296) : getN ((bs (putN c 4)).data.toList.take 8) = c := by
  rw [bs_data2, List.take_of_length_le (by simp [putN])]
  have e : putN c 4 = [c % 256, c / 256 % 256, c / 65536 % 256, c / 16777216 % 256] := by
    simp [putN, List.range_succ]
  rw [e]
  simp [getN]
  omega
/-- What stands for one text. -/
def recS (X : ByteArray) : ByteArray := bs (varN X.size) ++ X ++ shaS X.data.toList ++ bs (putN (crcV 0 X.data.toList) 4)
/-- n of them, from the j-th on. -/
def catS (F : Nat → ByteArray) : Nat → Nat → ByteArray
  | _, 0 => ⟨#[]⟩
  | j, n + 1 => F j ++ catS F (j + 1) n
theorem ba_assoc (a b c : ByteArray) : a ++ b ++ c = a ++ (b ++ c) := by
  apply ba_ext; simp [ByteArray.data_append]
theorem ba_nil (a : ByteArray) : a ++ (⟨#[]⟩ : ByteArray) = a := by
  apply ba_ext; simp [ByteArray.data_append]
theorem nil_ba (a : ByteArray) : (⟨#[]⟩ : ByteArray) ++ a = a := by
  apply ba_ext; simp [ByteArray.data_append]
theorem catS_snoc (F : Nat → ByteArray) : ∀ (n j : Nat), catS F j n ++ F (j + n) = catS F j (n + 1)
  | 0, j => by simp only [catS, Nat.add_zero]; rw [nil_ba, ba_nil]
  | n + 1, j => by
    rw [catS, catS, ba_assoc, show j + (n + 1) = j + 1 + n by omega, catS_snoc F n (j + 1)]
theorem ba_size (a b : ByteArray) : (a ++ b).size = a.size + b.size := by
  rw [← size_toList, ByteArray.data_append, Array.toList_append, List.length_append, size_toList, size_toList]
theorem ba_data (a b : ByteArray) : (a ++ b).data.toList = a.data.toList ++ b.data.toList := by
  rw [ByteArray.data_append, Array.toList_append]
theorem recS_size (X : ByteArray) (h : X.size ≤ 200) : (recS X).size ≤ 246 := by
  unfold recS
  have h1 : (varN X.size).length ≤ 10 := varN_len64 (by omega)
  rw [ba_size, ba_size, ba_size, bs_size2, bs_size2, shaS_size, putN_len]; omega
theorem catS_size (F : Nat → ByteArray) (hF : ∀ k, (F k).size ≤ 246) : ∀ (n j : Nat), (catS F j n).size ≤ 246 * n
  | 0, j => by simp [catS, ByteArray.size]
  | n + 1, j => by
    have := catS_size F hF n (j + 1)
    have := hF j
    rw [catS, ba_size]; omega
theorem cut_front (a b : ByteArray) : (a ++ b).extract 0 a.size = a := by
  apply ba_ext; rw [extract_data, ba_data, List.drop_zero, Nat.sub_zero, ← size_toList a, List.take_left]
theorem cut_back (a b : ByteArray) (n : Nat) (h : n = (a ++ b).size) : (a ++ b).extract a.size n = b := by
  subst h
  apply ba_ext; rw [extract_data, ba_data, ← size_toList a, List.drop_left, ba_size, ← size_toList a, Nat.add_sub_cancel_left, ← size_toList b, List.take_length]
theorem cut_mid (a b c : ByteArray) (n m : Nat) (hn : n = a.size) (hm : m = a.size + b.size) : (a ++ (b ++ c)).extract n m = b := by
  subst hn; subst hm
  apply ba_ext; rw [extract_data, ba_data, ba_data, ← size_toList a, List.drop_left, Nat.add_sub_cancel_left, ← size_toList b, List.take_left]
theorem varB_data (n : Nat) : (bs (varN n)).data.toList = varB n := by rw [bs_data2]; rfl
/-- What is read of such a text, with R behind it. -/
theorem rec_read (X R : ByteArray) (h : X.size ≤ 200) :
    ∃ (v : Nat) (B : ByteArray), 1 ≤ v ∧ v ≤ 10 ∧ uv (recS X ++ R).data.toList 0 0 = (X.size, v) ∧ (recS X ++ R).size = v + X.size + 36 + R.size ∧
      (recS X ++ R).extract v (v + X.size) = X ∧ (recS X ++ R).extract (v + X.size) (recS X ++ R).size = B ∧ B.size = 36 + R.size ∧
      B.extract 0 32 = shaS X.data.toList ∧ B.extract 32 36 = bs (putN (crcV 0 X.data.toList) 4) ∧ B.extract 36 B.size = R := by
  have hv := varN_len64 (x := X.size) (by omega)
  have hp := varN_pos X.size
  have sS := shaS_size X.data.toList
  have sP : (bs (putN (crcV 0 X.data.toList) 4)).size = 4 := by rw [bs_size2, putN_len]
  have sV := bs_size2 (varN X.size)
  have dV := varB_data X.size
  have e : recS X ++ R = bs (varN X.size) ++ (X ++ (shaS X.data.toList ++ (bs (putN (crcV 0 X.data.toList) 4) ++ R))) := by
    unfold recS; simp only [ba_assoc]
  rw [e]
  generalize shaS X.data.toList = S at *
  generalize bs (putN (crcV 0 X.data.toList) 4) = P at *
  refine ⟨(varN X.size).length, S ++ (P ++ R), hp, hv, ?_, ?_, ?_, ?_, ?_, ?_, ?_, ?_⟩
  · rw [ba_data, dV, uv_var _ _ (by omega), varB_len]
  · rw [ba_size, ba_size, ba_size, ba_size, sV, sS, sP]; omega
  · exact cut_mid _ _ _ _ _ sV.symm (by rw [sV])
  · rw [← ba_assoc, show (varN X.size).length + X.size = (bs (varN X.size) ++ X).size by rw [ba_size, sV], cut_back _ _ _ rfl]
  · rw [ba_size, ba_size, sS, sP]; omega
  · exact (congrArg _ sS.symm).trans (cut_front _ _)
  · exact cut_mid _ _ _ _ _ sS.symm (by rw [sS, sP])
  · rw [← ba_assoc]
    have : (36 : Nat) = (S ++ P).size := by rw [ba_size, sS, sP]
    rw [this]
    exact cut_back _ _ _ rfl
/-- The name, read back. -/
theorem unhex_name (l : List UInt8) : unhex (nameS l).data.toList = some (shaS l).data.toList := by
  unfold nameS; rw [bs_data2]; exact unhex_hexB _
theorem unhex_nameS (l : List UInt8) : bs (uhL (nameS l).data.toList) = shaS l := by
  unfold uhL; rw [unhex_name]
  apply ba_ext
  rw [bs_data2, Option.getD_some, ofNat_map]
theorem nameS_size (l : List UInt8) : (nameS l).size = 64 := by
  unfold nameS; rw [bs_size2, hexL_len, size_toList, shaS_size]
theorem isName_name (l : List UInt8) : isName (nameS l) = true := by
  unfold isName; rw [unhex_name, nameS_size]; rfl
end Go.Proofs.YtkphgjaklkfcfabDoor
