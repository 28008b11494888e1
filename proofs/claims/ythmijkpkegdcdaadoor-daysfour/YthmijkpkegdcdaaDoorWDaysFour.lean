/- 'DaysFour' answers true at every second: its walk. -/
import Derived.Test.YthmijkpkegdcdaaDoorDayE
namespace Go.Proofs.YthmijkpkegdcdaaDoor
open Go.RowKit
set_option linter.unusedVariables false

theorem four_cut (d : Nat) (w : World) : (Instr.slice 9 (.string (dateS d)) (some (.int .i64 4)) none none).run Tryd.prog w = .ok (.string ((dateS d).extract 4 10)) w := by
  have h := dateS_size d
  generalize dateS d = S at *
  simp [go_sem, h]
set_option maxRecDepth 100000 in
set_option maxHeartbeats 1000000 in
theorem lawDaysFour_walk (t : Int) (W : World) (b0 : -9223372036854775808 ≤ t ∧ t ≤ 9223372036854775807) (hL : PT W) :
    Calls Tryd.prog 6 #[.int .i64 t] W fun e w' => e = .returned (.bool true) ∧ Below W.heap.size W w' := by
  by_cases hf : t < 0 ∨ 240779519999 < t
  · rcases hf with hf | hf
    · go_enter Tryd.func6, Tryd.ntmps6
      go_wp2_with fail
      refine (awake20_any _ hL).mono ?_
      rintro e w3 ⟨rfl, hb3⟩
      go_wp2
      go_ret
      exact ⟨rfl, hb3⟩
    · have hf0 : 0 ≤ t := by omega
      go_enter Tryd.func6, Tryd.ntmps6
      go_wp2_with fail
      refine (awake20_any _ hL).mono ?_
      rintro e w3 ⟨rfl, hb3⟩
      go_wp2
      go_ret
      exact ⟨rfl, hb3⟩
  · obtain ⟨x, rfl⟩ := Int.eq_ofNat_of_zero_le (show 0 ≤ t by omega)
    have hx : x ≤ 240779519999 := by omega
    have hq : x / 86400 ≤ 2932896 := by omega
    have e0 : (x + 12622780800) / 86400 = x / 86400 + 146097 := by omega
    have e1 : ((x + 12622780800 : Nat) : Int) = (x : Int) + 12622780800 := by omega
    have H1 := date_any x W (by omega) hL
    have U1 := fun w h => date_any (x + 12622780800) w (by omega) h
    have H3 := fun w => day_any x w (by omega)
    have U3 := fun w => day_any (x + 12622780800) w (by omega)
    have H4 := fun w => week_any x w (by omega)
    have U4 := fun w => week_any (x + 12622780800) w (by omega)
    have H5 := fun w => month_any x w (by omega)
    have U5 := fun w => month_any (x + 12622780800) w (by omega)
    rw [e0, e1] at U1 U3 U4 U5
    rw [mon_four] at U5
    rw [show (x / 86400 + 146097 + 3) / 7 = (x / 86400 + 3) / 7 + 20871 by omega] at U4
    rw [show ((x / 86400 + 146097 : Nat) : Int) = ((x / 86400 : Nat) : Int) + 146097 by omega] at U3
    rw [show (((x / 86400 + 3) / 7 + 20871 : Nat) : Int) = (((x / 86400 + 3) / 7 : Nat) : Int) + 20871 by omega] at U4
    rw [show ((mon (x / 86400) + 4800 : Nat) : Int) = ((mon (x / 86400) : Nat) : Int) + 4800 by omega] at U5
    have hmb := mon_le hq
    have hkb : (x / 86400 + 3) / 7 ≤ 1000000 := by omega
    have C1 := four_cut (x / 86400)
    have C2 := four_cut (x / 86400 + 146097)
    rw [date_four] at C2
    have z1 := dateS_size (x / 86400)
    have z2 := dateS_size (x / 86400 + 146097)
    have HT : Hid (∀ w', Below W.heap.size W w' → PT w') := fun w' h => hL.on h
    clear hf b0 e0 e1
    generalize ByteArray.extract (dateS (x / 86400)) 4 10 = X at *
    generalize dateS (x / 86400) = S at *
    generalize dateS (x / 86400 + 146097) = S' at *
    generalize mon (x / 86400) = n at *
    generalize (x / 86400 + 3) / 7 = k at *
    generalize x / 86400 = q at *
    go_enter Tryd.func6, Tryd.ntmps6
    go_wp2_with fail
    refine H1.mono ?_
    rintro e w1 ⟨rfl, hb1⟩
    go_wp2_with fail
    refine (U1 _ (HT.out _ hb1)).mono ?_
    rintro e w2 ⟨rfl, hb2⟩
    have hb2' : Below W.heap.size W w2 := hb1.trans (hb2.mono hb1.size)
    go_upto_region 6 with fail
    have hS0 : Below W.heap.size W w2.drew := hb2'.drew
    clear hb1 hb2 hb2' H1 U1
    have HBT : Hid (∀ u v : World, Below W.heap.size W u → Below u.heap.size u v → Below W.heap.size W v) := fun u v hu hv => hu.trans (hv.mono hu.size)
    have t3 : IntKind.i64.wrap ((q : Int) + 146097) = (q : Int) + 146097 := by rw [IntKind.wrap_i64]; omega
    have t4 : IntKind.i64.wrap ((k : Int) + 20871) = (k : Int) + 20871 := by rw [IntKind.wrap_i64]; omega
    have t5 : IntKind.i64.wrap ((n : Int) + 4800) = (n : Int) + 4800 := by rw [IntKind.wrap_i64]; omega
    go_region_held3 (fun _ : World => True) (trivial)
      ((first | (go_at_call 9; refine (awake20_any _ (HT.out _ hS0)).mono ?_; rintro e w4 ⟨rfl, hb4⟩; have hch4 := HBT.out _ _ hS0 hb4) | (go_at_call 10; (first | (with_reducible refine (H3 _).mono ?_; rintro e w5 ⟨rfl, e5⟩; have e6 := e5.symm; subst e6) | (with_reducible refine (U3 _).mono ?_; rintro e w5 ⟨rfl, e5⟩; have e6 := e5.symm; subst e6))) | (go_at_call 11; (first | (with_reducible refine (H4 _).mono ?_; rintro e w5 ⟨rfl, e5⟩; have e6 := e5.symm; subst e6) | (with_reducible refine (U4 _).mono ?_; rintro e w5 ⟨rfl, e5⟩; have e6 := e5.symm; subst e6))) | (go_at_call 12; (first | (with_reducible refine (H5 _).mono ?_; rintro e w5 ⟨rfl, e5⟩; have e6 := e5.symm; subst e6) | (with_reducible refine (U5 _).mono ?_; rintro e w5 ⟨rfl, e5⟩; have e6 := e5.symm; subst e6)))))
    all_goals
      clear H3 U3 H4 U4 H5 U5 C1 C2 HT HBT
      go_wp2
      go_ret
      exact ⟨rfl, hch4⟩
end Go.Proofs.YthmijkpkegdcdaaDoor
