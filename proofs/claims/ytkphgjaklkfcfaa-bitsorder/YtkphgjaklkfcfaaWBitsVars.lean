/- The walk of the law BitsVars: it returns true at every input. -/
import Derived.Test.YtkphgjaklkfcfaaAwake
import Derived.Test.YtkphgjaklkfcfaaRUnvar
namespace Go.Proofs.Ytkphgjaklkfcfaa
open Go.RowKit
set_option linter.unusedVariables false

theorem few_20 (s : ByteArray) (w : World) (hs : s.size ≤ 9223372036854775807) :
    Calls Try.prog 17 #[.string s, .int .i64 20] w fun e w' => e = .returned (.string (s.extract 0 20)) ∧ w' = w := few_any s 20 w (by decide) hs
theorem runvar_20 (s : ByteArray) (w : World) : Calls Try.prog 16 #[.string (s.extract 0 20)] w fun e w' => e = .returned (.tuple #[.int .u64 (uv s.data.toList 0 0).1, .int .i64 (uv s.data.toList 0 0).2]) ∧ Below w.heap.size w w' := by
  have h := runvar_any (s.extract 0 20) w (by rw [few_size]; omega)
  rw [few_data, uv_take _ _ _ _ (by omega) (by omega)] at h
  exact h
theorem bs_size (l : List Nat) : (bs l).size = l.length := by rw [← size_toList, bs_data, List.length_map]
theorem append_data (a b : ByteArray) : (a ++ b).data.toList = a.data.toList ++ b.data.toList := by simp [ByteArray.data_append]
theorem unvar_back (x : Nat) (s : ByteArray) (w : World) (hx : x < 18446744073709551616) (hs : s.size ≤ 140737488351232) :
    Calls Try.prog 15 #[.string (bs (varN x) ++ s)] w fun e w' => e = .returned (.tuple #[.int .u64 x, .int .i64 (varN x).length]) ∧ w' = w := by
  have hl := varN_len64 hx
  have h := unvar_any (bs (varN x) ++ s) w (by rw [ByteArray.size_append, bs_size]; omega)
  have e : uv (bs (varN x) ++ s).data.toList 0 0 = (x, (varN x).length) := by
    rw [append_data, bs_data]
    have := uv_var x s.data.toList hx
    rw [varB_len] at this
    exact this
  rw [e] at h
  exact h
theorem var_nat (x : Nat) (w : World) (h1 : x < 18446744073709551616) :
    Calls Try.prog 14 #[.int .u64 x] w fun e w' => e = .returned (.string (bs (varN x))) ∧ Below w.heap.size w w' := var_any x w (by omega) (by omega)

set_option maxRecDepth 100000 in
set_option maxHeartbeats 1000000 in
theorem lawBitsVars_walk (x : Int) (s : ByteArray) (w : World) (hx : 0 ≤ x ∧ x ≤ 18446744073709551615) (hs : s.size ≤ 140737488351232) :
    Calls Try.prog 4 #[.int .u64 x, .string s] w fun e w' => e = .returned (.bool true) ∧ Below w.heap.size w w' := by
  obtain ⟨hx0, hx1⟩ := hx
  obtain ⟨x, rfl⟩ := Int.eq_ofNat_of_zero_le hx0
  have hx : x < 18446744073709551616 := by omega
  clear hx0 hx1
  have hl := varN_len64 hx
  have hsz := bs_size (varN x)
  have hsl : (bs (varN x)).size ≤ 10 := by omega
  have HSZ : Hid (_ = _) := hsz
  clear hsz
  go_enter Try.func4, Try.ntmps4
  go_wp2_with fail
  refine (var_nat _ _ hx).mono ?_
  rintro e w1 ⟨rfl, hb1⟩
  go_wp2_with fail
  refine (unvar_any _ _ (by omega)).mono ?_
  rintro e w2 ⟨rfl, rfl⟩
  go_wp2_with fail
  refine (few_20 _ _ (by omega)).mono ?_
  rintro e w3 ⟨rfl, rfl⟩
  go_wp2_with fail
  refine (runvar_20 _ _).mono ?_
  rintro e w4 ⟨rfl, hb2⟩
  go_wp2_with fail
  refine (unvar_back _ _ _ hx hs).mono ?_
  rintro e w5 ⟨rfl, rfl⟩
  go_wp2_with fail
  refine (awake_any _).mono ?_
  rintro e w6 ⟨rfl, hb3⟩
  go_wp2_with fail
  refine (rvar_nat _ _ hx).mono ?_
  rintro e w7 ⟨rfl, hb4⟩
  have hq : ((varN x).length : Int) == ((bs (varN x)).size : Int) := by rw [HSZ.out]; simp
  go_wp2
  go_ret
  exact ⟨rfl, below_trans (below_trans (below_trans hb1 hb2) hb3) hb4⟩
end Go.Proofs.Ytkphgjaklkfcfaa
