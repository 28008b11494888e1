/- The walk of PolyDivides. -/
import Derived.Test.YtnfemofighgenaaPolyD
import Derived.Test.YtnfemofighgenaaRPolD
namespace Go.Proofs.Ytnfemofighgenaa
open Go.RowKit
set_option linter.unusedVariables false

theorem rdivides_yes (d p : Nat) (w : World) (hd : d < 18446744073709551616) (hp : p < 18446744073709551616) (h0 : d ≠ 0) (h : Dv d p) :
    Calls Try.prog 27 #[.int .u64 d, .int .u64 p] w fun e w' => e = .returned (.bool true) ∧ Below w.heap.size w w' :=
  (rdivides_any d p w hd hp h0).mono fun e w' g => ⟨by rw [g.1, (dv_beq d p h0).2 h], g.2⟩
theorem rdivides_no (d p : Nat) (w : World) (hd : d < 18446744073709551616) (hp : p < 18446744073709551616) (h0 : d ≠ 0) (h : ¬ Dv d p) :
    Calls Try.prog 27 #[.int .u64 d, .int .u64 p] w fun e w' => e = .returned (.bool false) ∧ Below w.heap.size w w' :=
  (rdivides_any d p w hd hp h0).mono fun e w' g => ⟨by rw [g.1, show (pm p d == 0) = false by
    rw [Bool.eq_false_iff]; exact fun hc => h ((dv_beq d p h0).1 hc)], g.2⟩
set_option maxRecDepth 100000 in
set_option maxHeartbeats 2000000 in
theorem lawPolyDivides_walk (p q d s : Int) (w : World) (hp : 0 ≤ p ∧ p ≤ 18446744073709551615) (hq : 0 ≤ q ∧ q ≤ 18446744073709551615) (hd : 0 ≤ d ∧ d ≤ 18446744073709551615) (hs : 0 ≤ s ∧ s ≤ 18446744073709551615) :
    Calls Try.prog 5 #[.int .u64 p, .int .u64 q, .int .u64 d, .int .u64 s] w fun e w' => e = .returned (.bool true) ∧ Below w.heap.size w w' := by
  obtain ⟨p, rfl⟩ := Int.eq_ofNat_of_zero_le hp.1
  obtain ⟨q, rfl⟩ := Int.eq_ofNat_of_zero_le hq.1
  obtain ⟨d, rfl⟩ := Int.eq_ofNat_of_zero_le hd.1
  obtain ⟨s, rfl⟩ := Int.eq_ofNat_of_zero_le hs.1
  have hp : p < 18446744073709551616 := by omega
  have hq : q < 18446744073709551616 := by omega
  have hd : d < 18446744073709551616 := by omega
  have cs : (s : Int) % 32768 = ((s % 32768 : Nat) : Int) := by omega
  have ls : s % 32768 < 32768 := by omega
  clear hs
  generalize s % 32768 = S at *
  have ls64 : S < 18446744073709551616 := by omega
  have hG := gc64 (a := 0) (b := 0) p q hp hq
  have hG1 := (gc_dv p q).1
  have hG2 := (gc_dv p q).2
  go_enter Try.func5, Try.ntmps5
  go_wp2_with fail
  refine (common_any p q _ hp hq).mono ?_
  rintro e w' ⟨rfl, rfl⟩
  have hGN : (p ≠ 0 ∨ q ≠ 0) → gc p q ≠ 0 := gc_ne
  have HGG : Hid (Dv d p → Dv d q → Dv d (gc p q)) := gc_great
  have HG0 : Hid (p = 0 → q = 0 → gc p q = 0) := fun h1 h2 => by rw [h1, h2]; rfl
  generalize gc p q = G at *
  go_wp2_with fail
  refine (awake9_any _).mono ?_
  rintro e w' ⟨rfl, rfl⟩
  go_wp2_with fail
  refine (prime_any S _ ls64).mono ?_
  rintro e w' ⟨rfl, rfl⟩
  go_wp2_with fail
  refine (rprime_any S _ ls).mono ?_
  rintro e w1 ⟨rfl, hB1⟩
  have hne : (prB S != prB S) = false := by simp
  generalize prB S = PS at *
  by_cases hz : p = 0 ∧ q = 0
  · obtain ⟨h1, h2⟩ := hz
    have h3 := HG0.out h1 h2
    subst h1; subst h2; subst h3
    go_wp2
    go_ret
    exact ⟨rfl, hB1⟩
  · have hgn := hGN (by omega)
    clear hGN
    have hgz : ((G : Int) == 0) = false := by rw [beq_eq_false_iff_ne]; omega
    have HGN : Hid _ := hgn
    clear hgn
    have hpq : ((p : Int) == 0) = true → ((q : Int) == 0) = false := by
      rw [beq_iff_eq, beq_eq_false_iff_ne]; omega
    have HZ : Hid (((p : Int) == 0) = true → ((q : Int) == 0) = false) := hpq
    clear hpq hz
    cases hp0 : ((p : Int) == 0)
    · clear HZ
      go_wp2_with fail
      refine (rdivides_yes G p _ hG hp HGN.out hG1).mono ?_
      rintro e w2 ⟨rfl, hB2⟩
      have hB2 := hB1.trans (hB2.mono hB1.size)
      go_wp2_with fail
      refine (rdivides_yes G q _ hG hq HGN.out hG2).mono ?_
      rintro e w3 ⟨rfl, hB3⟩
      have hB3 := hB2.trans (hB3.mono hB2.size)
      by_cases hd0 : d = 0
      · subst hd0
        go_wp2
        go_ret
        exact ⟨rfl, hB3⟩
      · have hdz : ((d : Int) == 0) = false := by rw [beq_eq_false_iff_ne]; omega
        have HD0 : Hid _ := hd0
        clear hd0
        go_wp2_with fail
        by_cases v1 : Dv d p
        · refine (rdivides_yes d p _ hd hp HD0.out v1).mono ?_
          rintro e w4 ⟨rfl, hB4⟩
          have hB4 := hB3.trans (hB4.mono hB3.size)
          go_wp2_with fail
          by_cases v2 : Dv d q
          · refine (rdivides_yes d q _ hd hq HD0.out v2).mono ?_
            rintro e w5 ⟨rfl, hB5⟩
            have hB5 := hB4.trans (hB5.mono hB4.size)
            go_wp2_with fail
            refine (rdivides_yes d G _ hd hG HD0.out (HGG.out v1 v2)).mono ?_
            rintro e w6 ⟨rfl, hB6⟩
            have hB6 := hB5.trans (hB6.mono hB5.size)
            go_wp2
            go_ret
            exact ⟨rfl, hB6⟩
          · refine (rdivides_no d q _ hd hq HD0.out v2).mono ?_
            rintro e w5 ⟨rfl, hB5⟩
            have hB5 := hB4.trans (hB5.mono hB4.size)
            go_wp2
            go_ret
            exact ⟨rfl, hB5⟩
        · refine (rdivides_no d p _ hd hp HD0.out v1).mono ?_
          rintro e w4 ⟨rfl, hB4⟩
          have hB4 := hB3.trans (hB4.mono hB3.size)
          go_wp2
          go_ret
          exact ⟨rfl, hB4⟩
    · have hq0 := HZ.out hp0
      clear HZ
      go_wp2_with fail
      refine (rdivides_yes G p _ hG hp HGN.out hG1).mono ?_
      rintro e w2 ⟨rfl, hB2⟩
      have hB2 := hB1.trans (hB2.mono hB1.size)
      go_wp2_with fail
      refine (rdivides_yes G q _ hG hq HGN.out hG2).mono ?_
      rintro e w3 ⟨rfl, hB3⟩
      have hB3 := hB2.trans (hB3.mono hB2.size)
      by_cases hd0 : d = 0
      · subst hd0
        go_wp2
        go_ret
        exact ⟨rfl, hB3⟩
      · have hdz : ((d : Int) == 0) = false := by rw [beq_eq_false_iff_ne]; omega
        have HD0 : Hid _ := hd0
        clear hd0
        go_wp2_with fail
        by_cases v1 : Dv d p
        · refine (rdivides_yes d p _ hd hp HD0.out v1).mono ?_
          rintro e w4 ⟨rfl, hB4⟩
          have hB4 := hB3.trans (hB4.mono hB3.size)
          go_wp2_with fail
          by_cases v2 : Dv d q
          · refine (rdivides_yes d q _ hd hq HD0.out v2).mono ?_
            rintro e w5 ⟨rfl, hB5⟩
            have hB5 := hB4.trans (hB5.mono hB4.size)
            go_wp2_with fail
            refine (rdivides_yes d G _ hd hG HD0.out (HGG.out v1 v2)).mono ?_
            rintro e w6 ⟨rfl, hB6⟩
            have hB6 := hB5.trans (hB6.mono hB5.size)
            go_wp2
            go_ret
            exact ⟨rfl, hB6⟩
          · refine (rdivides_no d q _ hd hq HD0.out v2).mono ?_
            rintro e w5 ⟨rfl, hB5⟩
            have hB5 := hB4.trans (hB5.mono hB4.size)
            go_wp2
            go_ret
            exact ⟨rfl, hB5⟩
        · refine (rdivides_no d p _ hd hp HD0.out v1).mono ?_
          rintro e w4 ⟨rfl, hB4⟩
          have hB4 := hB3.trans (hB4.mono hB3.size)
          go_wp2
          go_ret
          exact ⟨rfl, hB4⟩
end Go.Proofs.Ytnfemofighgenaa
