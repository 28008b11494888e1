/- Contracts of (*bitio.Sink).Count and .Turn. -/
import Derived.Test.YtclmjopppaknjaaQSnkB
import Derived.Test.YtclmjopppaknjaaQSrc2
namespace Go.Proofs.Ytclmjopppaknjaa
open Go.RowKit
set_option linter.unusedVariables false
set_option linter.unusedSimpArgs false

/-- The zero Sink's cells. -/
def snk0 : Array Value := snkC none noughts64 0
theorem Try.zeroSnk : (Try.prog.info? 63).map (fun i => (i.zero, i.size)) = some (some (.agg snk0), 66) := by kernel_rfl
theorem sink_zero (w : World) : SinkAt (w.alloc (.cells snk0 63)) w.heap.size [] := by
  refine ⟨none, ?_, rfl⟩
  rw [restC_past [] _ (by simp)]
  exact heap_alloc_new w _
theorem count_any (g : Nat) (L : List Bool) (w : World) (hS : SinkAt w g L) :
    Calls Try.prog 23 #[.pointer (some ⟨g, 0, none⟩)] w fun e w' => e = .returned (.int .i64 (L.length : Int)) ∧ w' = w := by
  obtain ⟨p, hI, _⟩ := hS
  have c := hI.count (restC_len _ _)
  clear hI
  go_enter Try.func23, Try.ntmps23
  go_wp2
  go_ret
  exact ⟨rfl, rfl⟩
theorem shr_nat (x k : Nat) : ((x : Int) / 2 ^ k) = ((x / 2 ^ k : Nat) : Int) := by simp
theorem shr_test (x k : Nat) : (x / 2 ^ k).testBit 0 = x.testBit k := by rw [Nat.testBit_div_two_pow, Nat.zero_add]
/-- A shifted number's lowest bit, put. -/
theorem wbit_shr (g : Nat) (L : List Bool) (x k : Nat) (w : World) (hS : SinkAt w g L) (hx : x < 4294967296) (hL : L.length ≤ 4000000000000000000) :
    Calls Try.prog 45 #[.pointer (some ⟨g, 0, none⟩), .int .u32 ((x : Int) / 2 ^ k)] w fun e w' => e = .returned (.tuple #[]) ∧ SinkAt w' g (L ++ [x.testBit k]) ∧ w.grownBy w' (some g) := by
  rw [shr_nat, ← shr_test]
  exact wbit_any g L (x / 2 ^ k) w hS (Nat.lt_of_le_of_lt (Nat.div_le_self _ _) hx) hL
set_option maxRecDepth 100000 in
set_option maxHeartbeats 400000 in
theorem wturn_any (g : Nat) (L : List Bool) (x : Nat) (n : Int) (w : World) (hS : SinkAt w g L) (hx : x < 4294967296) (hL : L.length ≤ 3000000000000000000) (hn : -9223372036854775808 ≤ n ∧ n ≤ 9223372036854775807) :
    Calls Try.prog 22 #[.pointer (some ⟨g, 0, none⟩), .int .u32 (x : Int), .int .i64 n] w fun e w' => e = .returned (.tuple #[]) ∧ SinkAt w' g (L ++ highB x (near n 32)) ∧ w.grownBy w' (some g) := by
  have hm : near n 32 ≤ 32 := near_le n 32
  obtain ⟨m, hme⟩ : ∃ m, m = near n 32 := ⟨_, rfl⟩
  have HN : Hid (∀ W : World, Calls Try.prog 44 #[.int .i64 n, .int .i64 32] W fun e w' => e = .returned (.int .i64 (m : Int)) ∧ w' = W) := fun W => near32 n m W hn hme
  rw [← hme] at hm ⊢
  clear hme
  go_enter Try.func22, Try.ntmps22
  go_wp2_with (go_at_call 44; refine (HN.out _).mono ?_; rintro e w1 ⟨rfl, rfl⟩)
  go_loopw [6] (fun i wr => ∃ k : Nat, k ≤ m ∧ i = .int .i64 ((m : Int) - 1 - (k : Int)) ∧ SinkAt wr g (L ++ (highB x m).take k) ∧ w1.grownBy wr (some g)) (fun i _ => (intOf i + 1).toNat)
  case atStart => exact ⟨0, by omega, by simp, by simpa using hS, grefl _ _⟩
  case round =>
    clear hS
    obtain ⟨k, hk, rfl, hS, hG⟩ := hrel
    by_cases hlt : k < m
    · have HL : Hid (_ = _) := highK x m k
      have hle : (L ++ (highB x m).take k).length ≤ 4000000000000000000 := by rw [List.length_append, List.length_take, highB_len]; omega
      have i0 : (0 : Int) ≤ (m : Int) - 1 - (k : Int) := by omega
      have i1 : ((m : Int) - 1 - (k : Int)).toNat = m - 1 - k := by omega
      go_wp2_with fail
      refine (wbit_shr g _ x (m - 1 - k) _ hS hx hle).mono ?_
      rintro e w2 ⟨rfl, hS2, hG2⟩
      go_wp2
      go_roundw
      case rel => exact ⟨k + 1, by omega, congrArg _ (by omega), by rw [HL.out, if_pos hlt, ← List.append_assoc]; exact hS2, gtrans hG hG2⟩
      case measure => simp [intOf]; omega
    · obtain rfl : k = m := by omega
      have HT : Hid ((highB x k).take k = highB x k) := List.take_of_length_le (by rw [highB_len]; exact Nat.le_refl _)
      go_wp2
      rw [HT.out] at hS
      exact bodyPost_end (results_none rfl _ _ _) rfl ⟨rfl, hS, hG⟩
end Go.Proofs.Ytclmjopppaknjaa
