/- Contracts of math/bits.RotateLeft32 and digest.right, at the turns that are asked. -/
import Derived.Test.YtlnagnkiadlfpaaDoorRows
import Derived.Test.YtlnagnkiadlfpaaDoorBase
import Derived.Test.YtlnagnkiadlfpaaDoorShaM
namespace Go.Proofs.YtlnagnkiadlfpaaDoor
open Go.RowKit
set_option linter.unusedVariables false

theorem turn_and : ∀ n : Fin 32, 1 ≤ n.val → bits BinOp.and IntKind.u64 (IntKind.u64.wrap (-(n.val : Int))) 31 = ((32 - n.val : Nat) : Int) := by decide +kernel
set_option maxRecDepth 100000 in
set_option maxHeartbeats 400000 in
theorem rot_any (x n : Nat) (w : World) (hx : x < 4294967296) (hn : 1 ≤ n ∧ n ≤ 31) :
    Calls Tryd.prog 40 #[.int .u32 x, .int .i64 (-(n : Int))] w fun e w' => e = .returned (.int .u32 (ror x n)) ∧ w' = w := by
  obtain ⟨h1, h2⟩ := hn
  have ht := turn_and ⟨n, by omega⟩ h1
  simp only at ht
  have he : ((32 - n : Nat) : Int) = 32 - (n : Int) := by omega
  rw [he] at ht
  have HR : Hid (bits BinOp.or IntKind.u32 (((x * 2 ^ (32 - n) % 4294967296 : Nat) : Int)) (((x / 2 ^ n : Nat) : Int)) = (ror x n : Int)) :=
    u32_or_nat _ _ (Nat.mod_lt _ (by decide)) (div_lt32 _ hx)
  clear he
  go_enter Tryd.func40, Tryd.ntmps40
  go_wp2
  go_ret
  refine ⟨?_, rfl⟩
  have e1 : (((x * 2 ^ (32 - n) % 4294967296 : Nat) : Int)) = (x : Int) * 2 ^ (32 - n) % 4294967296 := by simp
  have e2 : (((x / 2 ^ n : Nat) : Int)) = (x : Int) / 2 ^ (32 - (32 - n)) := by rw [show 32 - (32 - n) = n by omega]; simp
  rw [← HR.out, e1, e2]; rfl
set_option maxRecDepth 100000 in
set_option maxHeartbeats 400000 in
theorem right_any (x : Nat) (n : Int) (w : World) (hx : x < 4294967296) (h1 : 1 ≤ n) (h2 : n ≤ 31) :
    Calls Tryd.prog 33 #[.int .u32 x, .int .i64 n] w fun e w' => e = .returned (.int .u32 (ror x n.toNat)) ∧ w' = w := by
  obtain ⟨m, rfl⟩ := Int.eq_ofNat_of_zero_le (show 0 ≤ n by omega)
  rw [Int.toNat_natCast]
  go_enter Tryd.func33, Tryd.ntmps33
  go_wp2_with (go_at_call 40; refine (rot_any _ _ _ hx ⟨by omega, by omega⟩).mono ?_; rintro e w1 ⟨rfl, rfl⟩)
  go_ret
  exact ⟨rfl, rfl⟩
end Go.Proofs.YtlnagnkiadlfpaaDoor
