/- Contract of bits.Put: the bytes of a number, the lowest first. -/
import Derived.Test.YtkaikjlklhcnlaaRows
import Derived.Test.YtkaikjlklhcnlaaBase
import Derived.Test.YtkaikjlklhcnlaaU8
namespace Go.Proofs.Ytkaikjlklhcnlaa
open Go.RowKit
set_option linter.unusedVariables false


/-- The lowest n bytes of a number, the lowest first. -/
def putN (x n : Nat) : List Nat := (List.range n).map fun i => x / 256 ^ i % 256
theorem putN_len (x n : Nat) : (putN x n).length = n := by simp [putN]
theorem putN_succ (x n : Nat) : putN x (n + 1) = putN x n ++ [x / 256 ^ n % 256] := by simp [putN, List.range_succ]
theorem div_pow_succ (x k : Nat) : x / 256 ^ k / 256 = x / 256 ^ (k + 1) := by rw [Nat.pow_succ, Nat.div_div_eq_div_mul]
theorem div_pow_lt (x k : Nat) (h : x < 18446744073709551616) : x / 256 ^ k < 18446744073709551616 := Nat.lt_of_le_of_lt (Nat.div_le_self _ _) h

set_option maxRecDepth 100000 in
set_option maxHeartbeats 400000 in
theorem put_any (x n : Int) (w : World) (hx0 : 0 ≤ x) (hx1 : x < 18446744073709551616) (hn : n ≤ 1099511627776) :
    Calls Try.prog 33 #[.int .u64 x, .int .i64 n] w fun e w' => e = .returned (.string (bs (putN x.toNat n.toNat))) ∧ Below w.heap.size w w' := by
  obtain ⟨x, rfl⟩ := Int.eq_ofNat_of_zero_le hx0
  rw [Int.toNat_natCast]
  have hx : x < 18446744073709551616 := by omega
  clear hx0 hx1
  obtain ⟨i0, hi, hz0, hz1, hz2⟩ := info_parts Try.infoU8
  go_enter Try.func33, Try.ntmps33
  go_wp2
  go_loopw [5, 0, 7] (fun v y i wr => ∃ k : Nat, (k : Int) ≤ max n 0 ∧ i = .int .i64 k ∧ y = .int .u64 (x / 256 ^ k : Nat) ∧ wr.ownsRow w.heap.size 5 1 v k (cs (putN x k)) ∧ Below w.heap.size w wr)
    (fun _ _ i _ => (max n 0 - intOf i).toNat)
  case atStart => exact ⟨0, by omega, rfl, by simp, World.ownsRow_nil _ _ _ _, Below.refl _ _⟩
  case round =>
    obtain ⟨k, hk, rfl, rfl, hown, hbel⟩ := hrel
    by_cases hlt : (k : Int) < n
    · have hl := div_pow_lt x k hx
      have HD : Hid (_ = _) := div_pow_succ x k
      have HS : Hid (_ = _) := putN_succ x k
      generalize x / 256 ^ k = y at *
      go_wp2_with (at_builtin; refine wpList_append_own _ rfl _ _ 55 rfl w.heap.size 5 i0 (.int .u8 0) 1 1 Try.underlying55 hi hz0 hz1 hz2 rfl (by decide) _ _ _ rfl (hown.alloc _) ⟨wr.heap.size, 0, none⟩ 1 1 [.int .u8 ((y : Int) % 256)] rfl rfl (cell_one_new _ _ _) ?c2 ?c3 ?c4 ?c5 ?_)
      case c2 => intro u hu; simp at hu; subst hu; rfl
      case c3 => unfold maxLen; omega
      case c4 => omega
      case c5 => have := hbel.size; simp; omega
      intro v' w1 hown' hgrow _
      have hb' := bel_append hbel (below_size hbel (Nat.le_refl _)) hown hgrow
      have ho' : w1.ownsRow w.heap.size 5 1 v' (k + 1) (cs (putN x (k + 1))) := by rw [HS.out, cs_snoc]; exact hown'
      clear hown' hgrow hown hbel
      go_wp2
      go_roundw
      case rel => exact ⟨k + 1, by omega, by go_num, by rw [← HD.out]; rfl, ho', hb'⟩
      case measure => simp [intOf]; omega
    · have hc := conv_bs (P := Try.prog) (dst := 9) Try.underlying55 Try.underlying5 Try.underlying9 hown
      have : n.toNat = k := by omega
      have HN : Hid (_ = _) := this
      clear hown this
      go_wp2
      go_ret
      refine ⟨?_, hbel⟩
      rw [HN.out]; rfl
end Go.Proofs.Ytkaikjlklhcnlaa
