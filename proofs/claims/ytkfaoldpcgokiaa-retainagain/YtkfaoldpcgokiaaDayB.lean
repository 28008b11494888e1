/- Contracts of days' calendar, within, Day, Week, Month. -/
import Derived.Test.YtkfaoldpcgokiaaDayA
namespace Go.Proofs.Ytkfaoldpcgokiaa
open Go.RowKit
set_option linter.unusedVariables false

/-- What the loop over months stands on. -/
structure CalS (d y k : Nat) : Prop where
  yr : y = yrN (mon d)
  ge : 1970 ≤ y
  le : y ≤ 9999
  ny : nyN y = SM k
  low : SM k ≤ d
  up : d < SM (k + 12)
  md : ∀ m, m < 12 → SM (k + m + 1) = SM (k + m) + mdN y (m + 1)
  mod : k % 12 = 0
theorem calS (d : Nat) (h : d ≤ 2932896) : CalS d (yrN (mon d)) (12 * (mon d / 12)) := by
  have ⟨h1, h2⟩ := mon_in d
  have hm := mon_le h
  have e := SM_year (mon d / 12)
  refine ⟨rfl, by unfold yrN; omega, by unfold yrN; omega, e.symm, ?_, ?_, fun m hm => ?_, by omega⟩
  · have := SM_mono (a := 12 * (mon d / 12)) (b := mon d) (by omega); omega
  · have := SM_mono (a := mon d + 1) (b := 12 * (mon d / 12) + 12) (by omega); omega
  · rw [show yrN (mon d) = 1970 + mon d / 12 from rfl, ← MDn_at _ _ hm]; rfl
theorem CalS.next {d y k m : Nat} (h : CalS d y k) (hm : m < 12) (hl : SM (k + m) + mdN y (m + 1) ≤ d) : m + 1 < 12 ∧ SM (k + (m + 1)) ≤ d := by
  have e := h.md m hm
  have hu := h.up
  refine ⟨?_, by rw [show k + (m + 1) = k + m + 1 by omega]; omega⟩
  rcases Nat.lt_or_ge (m + 1) 12 with g | g
  · exact g
  · have : m = 11 := by omega
    subst this
    rw [show k + 11 + 1 = k + 12 by omega] at e
    omega
theorem CalS.done {d y k m : Nat} (h : CalS d y k) (hm : m < 12) (h1 : SM (k + m) ≤ d) (h2 : d < SM (k + m) + mdN y (m + 1)) : moN (mon d) = m + 1 ∧ domN d = d - SM (k + m) + 1 := by
  have e := h.md m hm
  have hk : mon d = k + m := mon_of h1 (by omega)
  have := h.mod
  unfold moN domN
  rw [hk]
  omega
set_option maxRecDepth 100000 in
set_option maxHeartbeats 400000 in
theorem calendar_any (d : Nat) (w : World) (hd : d ≤ 2932896) :
    Calls Try.prog 23 #[.int .i64 d] w fun e w' => e = .returned (.tuple #[.int .i64 (yrN (mon d)), .int .i64 (moN (mon d)), .int .i64 (domN d)]) ∧ w' = w := by
  have HC := calS d hd
  have HY := yearOf_any d w hd
  generalize yrN (mon d) = y at HC HY ⊢
  generalize 12 * (mon d / 12) = k at HC
  have hy1 := HC.ge
  have hy2 := HC.le
  have hn1 := HC.low
  have hd2 : d ≤ 9000000 := by omega
  have HN := newYear_any y w hy1 (by omega)
  rw [HC.ny] at HN
  have HZ : Hid (∀ m, m < 12 → SM (k + m) + mdN y (m + 1) ≤ d → m + 1 < 12 ∧ SM (k + (m + 1)) ≤ d) := fun m hm hl => HC.next hm hl
  have HD : Hid (∀ m, m < 12 → SM (k + m) ≤ d → d < SM (k + m) + mdN y (m + 1) → moN (mon d) = m + 1 ∧ domN d = d - SM (k + m) + 1) := fun m hm h1 h2 => HC.done hm h1 h2
  have HM : Hid (∀ m, m < 12 → SM (k + m + 1) = SM (k + m) + mdN y (m + 1)) := HC.md
  clear HC
  obtain ⟨s0, hs0⟩ : ∃ s0, SM k = s0 := ⟨_, rfl⟩
  rw [hs0] at HN hn1
  have HS0 : Hid (SM (k + 0) = s0) := hs0
  clear hs0 hd
  go_enter Try.func23, Try.ntmps23
  go_wp2_with fail
  refine HY.mono ?_
  rintro e w1 ⟨rfl, rfl⟩
  go_wp2_with fail
  refine HN.mono ?_
  rintro e w2 ⟨rfl, rfl⟩
  go_wp2
  go_loopw [6, 7] (fun r i wr => ∃ m : Nat, m < 12 ∧ SM (k + m) ≤ d ∧ i = .int .i64 ((m : Int) + 1) ∧ r = .int .i64 ((d : Int) - (SM (k + m) : Nat)) ∧ wr = w2) (fun _ i _ => (20 - intOf i).toNat)
  case atStart =>
    refine ⟨0, by omega, by rw [HS0.out]; exact hn1, rfl, by rw [HS0.out], rfl⟩
  case round =>
    obtain ⟨m, hm, hsm, rfl, rfl, hw⟩ := hrel
    subst hw
    have HA := monthDays_any y (m + 1) wr hy1 (by omega) (by omega)
    rw [show (((m + 1 : Nat) : Int)) = (m : Int) + 1 by omega] at HA
    have hu := mdN_le y (m + 1)
    have hz := HZ.out m hm
    have hdn := HD.out m hm hsm
    have HS : Hid (SM (k + (m + 1)) = SM (k + m) + mdN y (m + 1)) := HM.out m hm
    generalize mdN y (m + 1) = q at *
    generalize SM (k + m) = s at *
    by_cases hc : s + q ≤ d
    · obtain ⟨z1, z2⟩ := hz hc
      have Z2 : Hid (SM (k + (m + 1)) ≤ d) := z2
      clear z2 hz hdn
      go_wp2_with fail
      refine HA.mono ?_
      rintro e w1 ⟨rfl, rfl⟩
      go_wp2_with fail
      refine HA.mono ?_
      rintro e w1 ⟨rfl, rfl⟩
      go_wp2
      go_roundw
      case rel => exact ⟨m + 1, z1, Z2.out, by go_num, by rw [HS.out]; go_num, by first | rfl | trivial⟩
      case measure => simp [intOf]; omega
    · have HE : Hid (moN (mon d) = m + 1 ∧ domN d = d - s + 1) := hdn (by omega)
      clear hz hdn
      go_wp2_with fail
      refine HA.mono ?_
      rintro e w1 ⟨rfl, rfl⟩
      go_wp2
      refine bodyPost_ret (v := .tuple #[.int .i64 y, .int .i64 ((m : Int) + 1), .int .i64 ((d : Int) - s + 1)]) (by simp [results, Try.results23, go_sem]) rfl ⟨?_, rfl⟩
      rw [HE.out.1, HE.out.2, show ((d - s + 1 : Nat) : Int) = (d : Int) - s + 1 by omega]
      rfl
set_option maxRecDepth 100000 in
set_option maxHeartbeats 400000 in
theorem within_yes (t : Nat) (w : World) (h : t ≤ 253402300799) : Calls Try.prog 22 #[.int .i64 t] w fun e w' => e = .returned (.bool true) ∧ w' = w := by
  go_enter Try.func22, Try.ntmps22
  go_wp2
  go_ret
  exact ⟨by simp; omega, rfl⟩
set_option maxRecDepth 100000 in
set_option maxHeartbeats 400000 in
theorem within_no (t : Int) (w : World) (h : ¬ (0 ≤ t ∧ t ≤ 253402300799)) : Calls Try.prog 22 #[.int .i64 t] w fun e w' => e = .returned (.bool false) ∧ w' = w := by
  rcases (by omega : t < 0 ∨ (0 ≤ t ∧ 253402300799 < t)) with h0 | ⟨h0, h1⟩
  · clear h
    go_enter Try.func22, Try.ntmps22
    go_wp2
    go_ret
    exact ⟨rfl, rfl⟩
  · clear h
    go_enter Try.func22, Try.ntmps22
    go_wp2
    go_ret
    exact ⟨by simp; omega, rfl⟩
set_option maxRecDepth 100000 in
set_option maxHeartbeats 400000 in
theorem day_any (t : Nat) (w : World) (h : t ≤ 253402300799) : Calls Try.prog 17 #[.int .i64 t] w fun e w' => e = .returned (.int .i64 (t / 86400 : Nat)) ∧ w' = w := by
  go_enter Try.func17, Try.ntmps17
  go_wp2_with fail
  refine (within_yes t w h).mono ?_
  rintro e w1 ⟨rfl, rfl⟩
  go_wp2
  go_ret
  refine ⟨?_, rfl⟩
  go_num
set_option maxRecDepth 100000 in
set_option maxHeartbeats 400000 in
theorem day_no (t : Int) (w : World) (h : ¬ (0 ≤ t ∧ t ≤ 253402300799)) : Calls Try.prog 17 #[.int .i64 t] w fun e w' => e = .returned (.int .i64 (-1)) ∧ w' = w := by
  go_enter Try.func17, Try.ntmps17
  go_wp2_with fail
  refine (within_no t w h).mono ?_
  rintro e w1 ⟨rfl, rfl⟩
  clear h
  go_wp2
  go_ret
  exact ⟨rfl, rfl⟩
set_option maxRecDepth 100000 in
set_option maxHeartbeats 400000 in
theorem week_any (t : Nat) (w : World) (h : t ≤ 253402300799) : Calls Try.prog 18 #[.int .i64 t] w fun e w' => e = .returned (.int .i64 ((t / 86400 + 3) / 7 : Nat)) ∧ w' = w := by
  have HD := day_any t w h
  have hq : t / 86400 ≤ 2932896 := by omega
  have HE : Hid (((t / 86400 + 3) / 7 : Nat) = (((t / 86400 : Nat) : Int) + 3) / 7) := by show _ = _; omega
  generalize t / 86400 = q at *
  go_enter Try.func18, Try.ntmps18
  go_wp2_with fail
  refine (within_yes t w h).mono ?_
  rintro e w1 ⟨rfl, rfl⟩
  go_wp2_with fail
  refine HD.mono ?_
  rintro e w2 ⟨rfl, rfl⟩
  go_wp2
  go_ret
  refine ⟨?_, rfl⟩
  rw [HE.out]
  go_num
set_option maxRecDepth 100000 in
set_option maxHeartbeats 400000 in
theorem week_no (t : Int) (w : World) (h : ¬ (0 ≤ t ∧ t ≤ 253402300799)) : Calls Try.prog 18 #[.int .i64 t] w fun e w' => e = .returned (.int .i64 (-1)) ∧ w' = w := by
  go_enter Try.func18, Try.ntmps18
  go_wp2_with fail
  refine (within_no t w h).mono ?_
  rintro e w1 ⟨rfl, rfl⟩
  clear h
  go_wp2
  go_ret
  exact ⟨rfl, rfl⟩
set_option maxRecDepth 100000 in
set_option maxHeartbeats 400000 in
theorem month_any (t : Nat) (w : World) (h : t ≤ 253402300799) : Calls Try.prog 19 #[.int .i64 t] w fun e w' => e = .returned (.int .i64 (mon (t / 86400))) ∧ w' = w := by
  have HD := day_any t w h
  have hq : t / 86400 ≤ 2932896 := by omega
  have HC := calendar_any (t / 86400) w hq
  have hm := mon_le hq
  have HE : Hid ((mon (t / 86400) : Int) = ((yrN (mon (t / 86400)) : Int) - 1970) * 12 + (moN (mon (t / 86400)) : Int) - 1) := by
    show _ = _
    unfold yrN moN; omega
  have b1 : yrN (mon (t / 86400)) ≤ 11000 := by unfold yrN; omega
  have b2 : moN (mon (t / 86400)) ≤ 12 := by unfold moN; omega
  generalize yrN (mon (t / 86400)) = y at *
  generalize moN (mon (t / 86400)) = m at *
  generalize domN (t / 86400) = dd at *
  generalize mon (t / 86400) = n at *
  clear hm
  generalize t / 86400 = q at *
  go_enter Try.func19, Try.ntmps19
  go_wp2_with fail
  refine (within_yes t w h).mono ?_
  rintro e w1 ⟨rfl, rfl⟩
  go_wp2_with fail
  refine HD.mono ?_
  rintro e w2 ⟨rfl, rfl⟩
  go_wp2_with fail
  refine HC.mono ?_
  rintro e w2 ⟨rfl, rfl⟩
  go_wp2
  go_ret
  refine ⟨?_, rfl⟩
  rw [HE.out]
  go_num
set_option maxRecDepth 100000 in
set_option maxHeartbeats 400000 in
theorem month_no (t : Int) (w : World) (h : ¬ (0 ≤ t ∧ t ≤ 253402300799)) : Calls Try.prog 19 #[.int .i64 t] w fun e w' => e = .returned (.int .i64 (-1)) ∧ w' = w := by
  go_enter Try.func19, Try.ntmps19
  go_wp2_with fail
  refine (within_no t w h).mono ?_
  rintro e w1 ⟨rfl, rfl⟩
  clear h
  go_wp2
  go_ret
  exact ⟨rfl, rfl⟩
end Go.Proofs.Ytkfaoldpcgokiaa
