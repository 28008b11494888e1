/- Contract of (*bitio.Source).Even. -/
import Derived.Test.YthkppipdflmekaaGreatQPutA
import Derived.Deep.WholeRow
import Derived.Deep.QuietTactic
import Derived.BigQuiet
set_option maxRecDepth 100000
set_option maxHeartbeats 400000
namespace Go.Proofs.YthkppipdflmekaaGreat
open Go.RowKit
set_option linter.unusedVariables false
theorem Tryz.zeroSrc : (Tryz.prog.info? 142).map (fun i => (i.zero, i.size)) = some (some (.agg #[.string ByteArray.empty, .int .i64 0]), 2) := by kernel_rfl
theorem qu0 (s : ByteArray) (w : World) :
    Calls Tryz.prog 32 #[.string s] w fun e w' => ∃ g, e = .returned (.pointer (some ⟨g, 0, none⟩)) ∧ qa6 w' g s 0 ∧ w.heap.size ≤ g ∧ Below w.heap.size w w' := by
 have hz := (zero_of_info Tryz.zeroSrc).1
 go_enter Tryz.func32, Tryz.ntmps32
 go_wp2
 go_ret
 exact ⟨_, rfl, heap_alloc_new w _, Nat.le_refl _, (Below.refl _ w).alloc (Nat.le_refl _) _⟩
theorem qvt (g : Nat) (s : ByteArray) (p : Nat) (w : World) (hS : qa6 w g s p) :
    Calls Tryz.prog 34 #[.pointer (some ⟨g, 0, none⟩)] w fun e w' => e = .returned (.int .i64 (p : Int)) ∧ w' = w := by
 have c1 := hS.place
 clear hS
 go_enter Tryz.func34, Tryz.ntmps34
 go_wp2
 go_ret
 exact ⟨rfl, rfl⟩
theorem qfz (g : Nat) (s : ByteArray) (p : Nat) (w : World) (hS : qa6 w g s p) (hs : s.size ≤ 140737488351232) :
    Calls Tryz.prog 88 #[.pointer (some ⟨g, 0, none⟩)] w fun e w' => e = .returned (.bool (decide (8 * s.size < p))) ∧ ∃ n, w' = w.drewN n := by
 have c1 := hS.place
 have c0 := hS.text
 clear hS
 have HD : Hid (decide ((8 * (s.size : Int)) < (p : Int)) = decide (8 * s.size < p)) := by apply decide_eq_decide.2; omega
 go_enter Tryz.func88, Tryz.ntmps88
 go_wp2
 go_quiet (fail)
 go_wp2
 go_ret
 refine ⟨?_, nq, rfl⟩
 show Ending.returned (.bool (decide ((8 * (s.size : Int)) < (p : Int)))) = _
 rw [HD.out]
theorem qv3 (n : Int) (m : Nat) (w : World) (hn : -9223372036854775808 ≤ n ∧ n ≤ 9223372036854775807) (hm : m = near n 32) :
    Calls Tryz.prog 84 #[.int .i64 n, .int .i64 32] w fun e w' => e = .returned (.int .i64 (m : Int)) ∧ w' = w := by
 subst hm; exact qiv n 32 w hn (by decide)
theorem q4g (a : Nat) (f : Bool) (k : Nat) (ha : a < 4294967296) (hk : k < 32) : bits .or .u32 (a : Int) ((f.toNat : Int) * 2 ^ k % 4294967296) = ((a ||| f.toNat * 2 ^ k : Nat) : Int) := by
 have h : f.toNat * 2 ^ k < 4294967296 := by
  have := Nat.pow_lt_pow_right (a := 2) (by decide) hk
  cases f
  · simp
  · simp; omega
 have e : (f.toNat : Int) * 2 ^ k % 4294967296 = ((f.toNat * 2 ^ k : Nat) : Int) := by
  have e1 : ((f.toNat * 2 ^ k : Nat) : Int) = (f.toNat : Int) * 2 ^ k := by simp
  rw [← e1]
  generalize f.toNat * 2 ^ k = q at *
  omega
 rw [e, u32_or_nat _ _ ha h]
theorem qk0 (g : Nat) (s : ByteArray) (p : Nat) (n : Int) (w : World) (hS : qa6 w g s p) (hs : s.size ≤ 140737488351232) (hp : p ≤ 4000000000000000000) (hn : -9223372036854775808 ≤ n ∧ n ≤ 9223372036854775807) :
    Calls Tryz.prog 87 #[.pointer (some ⟨g, 0, none⟩), .int .i64 n] w fun e w' => e = .returned (.int .u32 (qal (fun i => sbit s.data.toList (p + i)) (near n 32) : Int)) ∧ qa6 w' g s (p + near n 32) ∧ w.grownBy w' (some g) := by
 have hm : near n 32 ≤ 32 := qlo n 32
 obtain ⟨m, hme⟩ : ∃ m, m = near n 32 := ⟨_, rfl⟩
 have HN : Hid (∀ W : World, Calls Tryz.prog 84 #[.int .i64 n, .int .i64 32] W fun e w' => e = .returned (.int .i64 (m : Int)) ∧ w' = W) := fun W => qv3 n m W hn hme
 rw [← hme] at hm ⊢
 clear hme
 go_enter Tryz.func87, Tryz.ntmps87
 go_wp2_with (go_at_call 84; refine (HN.out _).mono ?_; rintro e w1 ⟨rfl, rfl⟩)
 go_loopw [5, 9] (fun o i wr => ∃ k : Nat, k ≤ m ∧ i = .int .i64 (k : Int) ∧ o = .int .u32 (qal (fun i => sbit s.data.toList (p + i)) k : Int) ∧ qa6 wr g s (p + k) ∧ w1.grownBy wr (some g)) (fun _ i _ => m - (intOf i).toNat)
 case atStart => exact ⟨0, by omega, rfl, rfl, hS, qcj _ _⟩
 case round =>
  clear hS
  obtain ⟨k, hk, rfl, rfl, hS, hG⟩ := hrel
  by_cases hlt : k < m
  · have HT : Hid (_ = _) := qqf (fun i => sbit s.data.toList (p + i)) k
    have hb := qeu (fun i => sbit s.data.toList (p + i)) k (by omega)
    generalize qal (fun i => sbit s.data.toList (p + i)) k = a at *
    go_wp2_with fail
    refine (q3r g s (p + k) _ hS hs (by omega)).mono ?_
    rintro e w2 ⟨rfl, hS2, hG2⟩
    go_wp2
    go_roundw
    case rel => exact ⟨k + 1, by omega, by go_num, by rw [q4g _ _ _ hb (by omega), HT.out], hS2, qdl hG hG2⟩
    case measure => simp [intOf]; omega
  · obtain rfl : k = m := by omega
    go_wp2
    go_ret
    exact ⟨rfl, hS, hG⟩
theorem qmt (g : Nat) (s : ByteArray) (p : Nat) (w : World) (hS : qa6 w g s p) (hp : p ≤ 4000000000000000000) :
    Calls Tryz.prog 99 #[.pointer (some ⟨g, 0, none⟩)] w fun e w' => e = .returned (.tuple #[]) ∧ qa6 w' g s ((p + 7) / 8 * 8) ∧ w.grownBy w' (some g) := by
 have c1 := hS.place
 have f1 := hS.free 1
 have HS : Hid (qa6 (w.setCell ⟨g, 1, none⟩ (.int .i64 (((p + 7) / 8 * 8 : Nat) : Int))) g s ((p + 7) / 8 * 8)) := hS.set _
 have HG : Hid (w.grownBy (w.setCell ⟨g, 1, none⟩ (.int .i64 (((p + 7) / 8 * 8 : Nat) : Int))) (some g)) := gset (qcj w _) 1 _
 clear hS
 go_enter Tryz.func99, Tryz.ntmps99
 go_wp2_with (go_at_call 58; refine (qg9 _ _ (by omega)).mono ?_; rintro e w1 ⟨rfl, rfl⟩)
 exact bodyPost_end (results_none rfl _ _ _) rfl ⟨rfl, HS.out, HG.out⟩
end Go.Proofs.YthkppipdflmekaaGreat
