/- The walk of the law BitsSums: it returns true at every input. -/
import Derived.Test.YtkphgjaklkfcfaaAwake
import Derived.Test.YtkphgjaklkfcfaaRCrc
namespace Go.Proofs.Ytkphgjaklkfcfaa
open Go.RowKit
set_option linter.unusedVariables false

theorem few_1000 (s : ByteArray) (w : World) (hs : s.size ≤ 9223372036854775807) :
    Calls Try.prog 17 #[.string s, .int .i64 1000] w fun e w' => e = .returned (.string (s.extract 0 1000)) ∧ w' = w := few_any s 1000 w (by decide) hs
/-- The sum of a text, and of one behind a sum, closed to the walk. -/
def sumOf (s : ByteArray) : Nat := crcV 0 s.data.toList
theorem sumOf_lt (s : ByteArray) : sumOf s < 4294967296 := crcV_lt _ _
theorem crc32_sum (s : ByteArray) (w : World) (hs : s.size ≤ 140737488351232) :
    Calls Try.prog 24 #[.string s] w fun e w' => e = .returned (.int .u32 (sumOf s)) ∧ Below w.heap.size w w' := crc32_any s w hs
theorem rcrc_sum (s : ByteArray) (w : World) (hs : s.size ≤ 10000) :
    Calls Try.prog 25 #[.string s] w fun e w' => e = .returned (.int .u32 (sumOf s)) ∧ Below w.heap.size w w' := rcrc_any s w hs
theorem crc_zero (s : ByteArray) (w : World) (hs : s.size ≤ 140737488351232) :
    Calls Try.prog 26 #[.int .u32 0, .string s] w fun e w' => e = .returned (.int .u32 (sumOf s)) ∧ Below w.heap.size w w' := crc_any 0 s w (by decide) (by decide) hs
theorem crc_on (a b : ByteArray) (w : World) (hs : b.size ≤ 140737488351232) :
    Calls Try.prog 26 #[.int .u32 (sumOf a), .string b] w fun e w' => e = .returned (.int .u32 (sumOf (a ++ b))) ∧ Below w.heap.size w w' := by
  have h := crc_any (sumOf a) b w (by omega) (by have := sumOf_lt a; omega) hs
  rw [Int.toNat_natCast] at h
  have e : crcV (sumOf a) b.data.toList = sumOf (a ++ b) := by
    unfold sumOf; rw [crcV_append]; simp [ByteArray.data_append]
  rw [e] at h; exact h

set_option maxRecDepth 100000 in
set_option maxHeartbeats 1000000 in
theorem lawBitsSums_walk (a b : ByteArray) (w : World) (ha : a.size ≤ 140737488351232) (hb : b.size ≤ 140737488351232) :
    Calls Try.prog 6 #[.string a, .string b] w fun e w' => e = .returned (.bool true) ∧ Below w.heap.size w w' := by
  have f1 := few_size a 1000
  have f2 := few_size b 1000
  go_enter Try.func6, Try.ntmps6
  go_wp2_with fail
  refine (few_1000 _ _ (by omega)).mono ?_
  rintro e w0 ⟨rfl, rfl⟩
  go_wp2_with fail
  refine (few_1000 _ _ (by omega)).mono ?_
  rintro e w0 ⟨rfl, rfl⟩
  have g1 : (a.extract 0 1000).size ≤ 1000 := by omega
  have g2 : (b.extract 0 1000).size ≤ 1000 := by omega
  clear f1 f2 ha hb
  generalize a.extract 0 1000 = A at *
  generalize b.extract 0 1000 = B at *
  have g3 : (A ++ B).size ≤ 2000 := by rw [ByteArray.size_append]; omega
  go_wp2_with fail
  refine (awake_any _).mono ?_
  rintro e w1 ⟨rfl, hb1⟩
  go_wp2_with fail
  refine (crc32_sum _ _ (by omega)).mono ?_
  rintro e w2 ⟨rfl, hb2⟩
  go_wp2_with fail
  refine (rcrc_sum _ _ (by omega)).mono ?_
  rintro e w3 ⟨rfl, hb3⟩
  go_wp2_with fail
  refine (crc32_sum _ _ (by omega)).mono ?_
  rintro e w4 ⟨rfl, hb4⟩
  go_wp2_with fail
  refine (crc_on _ _ _ (by omega)).mono ?_
  rintro e w5 ⟨rfl, hb5⟩
  go_wp2_with fail
  refine (rcrc_sum _ _ (by omega)).mono ?_
  rintro e w6 ⟨rfl, hb6⟩
  go_wp2_with fail
  refine (crc_zero _ _ (by omega)).mono ?_
  rintro e w7 ⟨rfl, hb7⟩
  go_wp2_with fail
  refine (rcrc_sum _ _ (by omega)).mono ?_
  rintro e w8 ⟨rfl, hb8⟩
  go_wp2
  go_ret
  exact ⟨rfl, below_trans (below_trans (below_trans (below_trans (below_trans (below_trans (below_trans hb1 hb2) hb3) hb4) hb5) hb6) hb7) hb8⟩
end Go.Proofs.Ytkphgjaklkfcfaa
