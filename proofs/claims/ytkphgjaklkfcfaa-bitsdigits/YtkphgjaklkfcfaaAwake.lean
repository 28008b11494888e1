/- Contract of the law's own 'awake': it returns true. -/
import Derived.Test.YtkphgjaklkfcfaaPutA
import Derived.Test.YtkphgjaklkfcfaaCrc
import Derived.Test.YtkphgjaklkfcfaaVar
namespace Go.Proofs.Ytkphgjaklkfcfaa
open Go.RowKit
set_option linter.unusedVariables false

theorem bs_toList (l : List Nat) : (bs l).toList = l.map UInt8.ofNat := by
  rw [ByteArray.toList_eq]; simp [bs, strOfNums]
theorem awake_put : ((bs (putN 258 3)).toList == [2, 1, 0]) = true := by rw [bs_toList]; decide +kernel
theorem awake_var : ((bs (varN 300)).toList == [172, 2]) = true := by
  rw [bs_toList, varN_big (by omega), varN_small (by omega)]; decide +kernel
theorem awake_crc : crcV 0 [49, 50, 51, 52, 53, 54, 55, 56, 57] = 3421780262 := by decide +kernel

theorem put_258 (w : World) : Calls Try.prog 10 #[.int .u64 258, .int .i64 3] w fun e w' => e = .returned (.string (bs (putN 258 3))) ∧ Below w.heap.size w w' := put_any 258 3 w (by decide) (by decide) (by decide)
theorem var_300 (w : World) : Calls Try.prog 14 #[.int .u64 300] w fun e w' => e = .returned (.string (bs (varN 300))) ∧ Below w.heap.size w w' := var_any 300 w (by decide) (by decide)
theorem crc_digits (w : World) : Calls Try.prog 24 #[.string ⟨#[49, 50, 51, 52, 53, 54, 55, 56, 57]⟩] w fun e w' => e = .returned (.int .u32 3421780262) ∧ Below w.heap.size w w' :=
  (crc32_any ⟨#[49, 50, 51, 52, 53, 54, 55, 56, 57]⟩ w (by decide)).mono fun e w' ⟨h, hb⟩ => ⟨by rw [h, show (ByteArray.mk #[49, 50, 51, 52, 53, 54, 55, 56, 57]).data.toList = [49, 50, 51, 52, 53, 54, 55, 56, 57] from rfl, awake_crc]; rfl, hb⟩
theorem below_trans {a b c : World} (h : Below a.heap.size a b) (k : Below b.heap.size b c) : Below a.heap.size a c := h.trans (k.mono h.size)

set_option maxRecDepth 100000 in
set_option maxHeartbeats 400000 in
theorem awake_any (w : World) : Calls Try.prog 9 #[] w fun e w' => e = .returned (.bool true) ∧ Below w.heap.size w w' := by
  have e1 := awake_put
  have e2 := awake_var
  go_enter Try.func9, Try.ntmps9
  go_wp2_with fail
  refine (put_258 _).mono ?_
  rintro e w1 ⟨rfl, hb1⟩
  go_wp2_with fail
  refine (crc_digits _).mono ?_
  rintro e w2 ⟨rfl, hb2⟩
  go_wp2_with fail
  refine (var_300 _).mono ?_
  rintro e w3 ⟨rfl, hb3⟩
  go_wp2
  go_ret
  exact ⟨rfl, below_trans (below_trans hb1 hb2) hb3⟩
end Go.Proofs.Ytkphgjaklkfcfaa
