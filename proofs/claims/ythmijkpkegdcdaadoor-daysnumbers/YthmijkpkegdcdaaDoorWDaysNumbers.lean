/- 'DaysNumbers' answers true at every second: its walk. -/
import Derived.Test.YthmijkpkegdcdaaDoorDayD
namespace Go.Proofs.YthmijkpkegdcdaaDoor
open Go.RowKit
set_option linter.unusedVariables false

theorem fld_n (n y m b d : Int) (w : World) : (Instr.field 30 (.agg #[.int .i64 n, .int .i64 y, .int .i64 m, .int .i64 b, .int .i64 d]) 0).run Tryd.prog w = .ok (.int .i64 n) w := by kernel_rfl
set_option maxRecDepth 100000 in
set_option maxHeartbeats 1000000 in
theorem lawDaysNumbers_walk (t : Int) (W : World) (b0 : -9223372036854775808 ≤ t ∧ t ≤ 9223372036854775807) (hL : PT W) :
    Calls Tryd.prog 3 #[.int .i64 t] W fun e w' => e = .returned (.bool true) ∧ Below W.heap.size W w' := by
  by_cases hf : 0 ≤ t ∧ t ≤ 253402300799
  · obtain ⟨x, rfl⟩ := Int.eq_ofNat_of_zero_le hf.1
    have hx : x ≤ 253402300799 := by omega
    have hq : x / 86400 ≤ 2932896 := by omega
    have H1 := date_any x W hx hL
    have H2 := fun w => fit_yes x w hx
    have H3 := fun w => day_any x w hx
    have H4 := fun w => week_any x w hx
    have H5 := fun w => month_any x w hx
    have R1 := fun w => rdate_any x w hx
    have R3 := fun w => rday_any x w hx
    have R4 := fun w => rweek_any x w hx
    have R5 := fun w => of_any (x / 86400) w hq
    rw [mC_eq] at R5
    have HT : Hid (∀ w', Below W.heap.size W w' → PT w') := fun w' h => hL.on h
    have HFL := fun n y m b d w => fld_n n y m b d w
    clear hf b0 hx hq
    generalize dateS (x / 86400) = S at *
    generalize yrN (mon (x / 86400)) = Y at *
    generalize moN (mon (x / 86400)) = M at *
    generalize SM (mon (x / 86400)) = B at *
    generalize MDn (mon (x / 86400)) = D at *
    generalize mon (x / 86400) = n at *
    generalize (x / 86400 + 3) / 7 = k at *
    generalize x / 86400 = q at *
    go_enter Tryd.func3, Tryd.ntmps3
    go_wp2_with fail
    refine H1.mono ?_
    rintro e w1 ⟨rfl, hb1⟩
    go_wp2_with fail
    refine (H2 _).mono ?_
    rintro e w2 ⟨rfl, rfl⟩
    go_wp2_with fail
    refine (awake20_any _ (HT.out _ hb1)).mono ?_
    rintro e w3 ⟨rfl, hb3⟩
    go_wp2_with fail
    refine (R1 _).mono ?_
    rintro e w4 ⟨rfl, hb4⟩
    go_wp2_with fail
    refine (H3 _).mono ?_
    rintro e w5 ⟨rfl, rfl⟩
    go_wp2_with fail
    refine (R3 _).mono ?_
    rintro e w5 ⟨rfl, rfl⟩
    go_wp2_with fail
    refine (H4 _).mono ?_
    rintro e w5 ⟨rfl, rfl⟩
    go_wp2_with fail
    refine (R4 _).mono ?_
    rintro e w5 ⟨rfl, rfl⟩
    go_wp2_with fail
    refine (H5 _).mono ?_
    rintro e w5 ⟨rfl, rfl⟩
    go_wp2_with fail
    refine (R3 _).mono ?_
    rintro e w5 ⟨rfl, rfl⟩
    go_wp2_with fail
    refine (R5 _).mono ?_
    rintro e w6 ⟨rfl, hb6⟩
    go_wp2
    go_ret
    exact ⟨rfl, ((hb1.trans (hb3.mono hb1.size)).trans (hb4.mono (Nat.le_trans hb1.size hb3.size))).trans (hb6.mono (Nat.le_trans (Nat.le_trans hb1.size hb3.size) hb4.size))⟩
  · go_enter Tryd.func3, Tryd.ntmps3
    have HF : Hid (_) := hf
    clear hf b0
    go_wp2_with fail
    refine (date_no t W HF.out).mono ?_
    rintro e w1 ⟨rfl, rfl⟩
    go_wp2_with fail
    refine (fit_no t w1 HF.out).mono ?_
    rintro e w2 ⟨rfl, rfl⟩
    go_wp2_with fail
    refine (awake20_any _ hL).mono ?_
    rintro e w3 ⟨rfl, hb3⟩
    go_wp2_with fail
    refine (day_no t _ HF.out).mono ?_
    rintro e w2 ⟨rfl, rfl⟩
    go_wp2_with fail
    refine (week_no t _ HF.out).mono ?_
    rintro e w2 ⟨rfl, rfl⟩
    go_wp2_with fail
    refine (month_no t _ HF.out).mono ?_
    rintro e w2 ⟨rfl, rfl⟩
    go_wp2
    go_ret
    exact ⟨rfl, hb3⟩
end Go.Proofs.YthmijkpkegdcdaaDoor
