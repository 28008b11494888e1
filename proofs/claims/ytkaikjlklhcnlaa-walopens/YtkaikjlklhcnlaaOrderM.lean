/- The plain mathematics of the law BitsOrder. -/
import Derived.Test.YtkaikjlklhcnlaaGetA
import Derived.Test.YtkaikjlklhcnlaaPutA
import Derived.Test.YtkaikjlklhcnlaaVarM
namespace Go.Proofs.Ytkaikjlklhcnlaa
set_option linter.unusedVariables false

theorem varN_mono : ∀ (x y : Nat), x ≤ y → (varN x).length ≤ (varN y).length := by
  intro x
  induction x using Nat.strongRecOn with
  | _ x ih =>
    intro y h
    by_cases hx : x < 128
    · rw [varN_small hx]; exact varN_pos y
    · rw [varN_big (x := x) (by omega), varN_big (x := y) (by omega)]
      have := ih (x / 128) (by omega) (y / 128) (Nat.div_le_div_right h)
      simp only [List.length_cons]; omega
theorem varN_inj (x y : Nat) (hx : x < 18446744073709551616) (hy : y < 18446744073709551616) (h : varN x = varN y) : x = y := by
  have a := uv_var x [] hx
  have b := uv_var y [] hy
  unfold varB at a b
  rw [h, b] at a
  exact (congrArg Prod.fst a).symm
theorem getN_put : ∀ (n x : Nat), getN ((putN x n).map UInt8.ofNat) = x % 256 ^ n
  | 0, x => by simp [putN, getN, Nat.mod_one]
  | n + 1, x => by
    have hl : ((putN x n).map UInt8.ofNat).length = n := by rw [List.length_map, putN_len]
    have hb : (UInt8.ofNat (x / 256 ^ n % 256)).toNat = x / 256 ^ n % 256 := by rw [UInt8.toNat_ofNat']; exact Nat.mod_eq_of_lt (by omega)
    rw [putN_succ, List.map_append, List.map_cons, List.map_nil, getN_snoc, hl, getN_put n x, hb, Nat.pow_succ, Nat.mul_comm (x / 256 ^ n % 256), ← Nat.mod_mul]
theorem getN_put8 (x : Nat) (hx : x < 18446744073709551616) : getN ((putN x 8).map UInt8.ofNat) = x := by
  rw [getN_put]; exact Nat.mod_eq_of_lt (Nat.lt_of_lt_of_le hx (by decide))
theorem putN_inj (x y : Nat) (hx : x < 18446744073709551616) (hy : y < 18446744073709551616) (h : (putN x 8).map UInt8.ofNat = (putN y 8).map UInt8.ofNat) : x = y := by
  rw [← getN_put8 x hx, h, getN_put8 y hy]

/-- Numbers one behind the other. -/
def vcat (l : List Nat) : List Nat := l.flatMap varN
theorem vcat_nil : vcat [] = [] := rfl
theorem vcat_cons (x : Nat) (l : List Nat) : vcat (x :: l) = varN x ++ vcat l := rfl
theorem vcat_snoc (l : List Nat) (x : Nat) : vcat (l ++ [x]) = vcat l ++ varN x := by simp [vcat]
theorem vcat_len (l : List Nat) (h : ∀ x ∈ l, x < 18446744073709551616) : (vcat l).length ≤ 10 * l.length := by
  induction l with
  | nil => simp [vcat]
  | cons x r ih =>
    have h1 := varN_len64 (h x (by simp))
    have h2 := ih fun y hy => h y (by simp [hy])
    rw [vcat_cons, List.length_append, List.length_cons]; omega
theorem bs_data' (l : List Nat) : (bs l).data.toList = l.map UInt8.ofNat := by simp [bs, strOfNums]
theorem ba_ext' {a b : ByteArray} (h : a.data.toList = b.data.toList) : a = b := by
  cases a; cases b; congr 1; exact Array.toList_inj.1 h
theorem bs_append (a b : List Nat) : bs a ++ bs b = bs (a ++ b) := by
  apply ba_ext'
  rw [bs_data', List.map_append, ← bs_data', ← bs_data']
  simp [ByteArray.data_append]
theorem bs_drop (a b : List Nat) : (bs (a ++ b)).extract a.length (bs (a ++ b)).size = bs b := by
  apply ba_ext'
  have hs : (bs (a ++ b)).size = a.length + b.length := by
    have : (bs (a ++ b)).data.toList.length = (bs (a ++ b)).size := by simp
    rw [← this, bs_data', List.length_map, List.length_append]
  rw [ByteArray.data_extract, Array.toList_extract, bs_data', bs_data', hs, List.map_append]
  simp
  exact List.take_of_length_le (by simp)
end Go.Proofs.Ytkaikjlklhcnlaa
