/- The walk of ChunkerEven. -/
import Derived.Test.YtnfemofighgenabWChunkerWhole
import Derived.Test.YtnfemofighgenabChkE
namespace Go.Proofs.Ytnfemofighgenab
open Go.RowKit
set_option linter.unusedVariables false

set_option maxRecDepth 100000 in
set_option maxHeartbeats 4000000 in
theorem lawChunkerEven_walk (s : ByteArray) (mn bt mx : Int) (w : World) (hs : s.size ≤ 140737488351232) (hmn : -9223372036854775808 ≤ mn ∧ mn ≤ 9223372036854775807) (hbt : -9223372036854775808 ≤ bt ∧ bt ≤ 9223372036854775807) (hmx : -9223372036854775808 ≤ mx ∧ mx ≤ 9223372036854775807) :
    Calls Try.prog 7 #[.string s, .int .i64 mn, .int .i64 bt, .int .i64 mx] w fun e w' => e = .returned (.bool true) ∧ Below w.heap.size w w' := by
  have hfs : (s.extract 0 2000).size ≤ 2000 := by rw [few_size]; omega
  go_enter Try.func7, Try.ntmps7
  go_wp2_with fail
  refine (few_any s 2000 _ (by decide) (by omega)).mono ?_
  rintro e w0 ⟨rfl, rfl⟩
  rw [show (2000 : Int).toNat = 2000 from rfl]
  generalize s.extract 0 2000 = S at *
  by_cases h0 : mn < 1
  · have q0 : decide (mn < 1) = true := by simpa using h0
    go_wp2_with fail
    refine (awake10_any _).mono ?_
    rintro e w1 ⟨rfl, hB1⟩
    go_wp2
    go_ret
    exact ⟨rfl, hB1⟩
  have q0 : decide (mn < 1) = false := by simpa using h0
  by_cases h1 : 4096 < mn
  · have q1 : decide (4096 < mn) = true := by simpa using h1
    go_wp2_with fail
    refine (awake10_any _).mono ?_
    rintro e w1 ⟨rfl, hB1⟩
    go_wp2
    go_ret
    exact ⟨rfl, hB1⟩
  have q1 : decide (4096 < mn) = false := by simpa using h1
  by_cases h2 : bt < 0
  · have q2 : decide (bt < 0) = true := by simpa using h2
    go_wp2_with fail
    refine (awake10_any _).mono ?_
    rintro e w1 ⟨rfl, hB1⟩
    go_wp2
    go_ret
    exact ⟨rfl, hB1⟩
  have q2 : decide (bt < 0) = false := by simpa using h2
  by_cases h3 : 20 < bt
  · have q3 : decide (20 < bt) = true := by simpa using h3
    go_wp2_with fail
    refine (awake10_any _).mono ?_
    rintro e w1 ⟨rfl, hB1⟩
    go_wp2
    go_ret
    exact ⟨rfl, hB1⟩
  have q3 : decide (20 < bt) = false := by simpa using h3
  by_cases h4 : mx < mn
  · have q4 : decide (mx < mn) = true := by simpa using h4
    go_wp2_with fail
    refine (awake10_any _).mono ?_
    rintro e w1 ⟨rfl, hB1⟩
    go_wp2
    go_ret
    exact ⟨rfl, hB1⟩
  have q4 : decide (mx < mn) = false := by simpa using h4
  by_cases h5 : 4096 < mx
  · have q5 : decide (4096 < mx) = true := by simpa using h5
    go_wp2_with fail
    refine (awake10_any _).mono ?_
    rintro e w1 ⟨rfl, hB1⟩
    go_wp2
    go_ret
    exact ⟨rfl, hB1⟩
  have q5 : decide (4096 < mx) = false := by simpa using h5
  obtain ⟨mn, rfl⟩ := Int.eq_ofNat_of_zero_le (show 0 ≤ mn by omega)
  obtain ⟨bt, rfl⟩ := Int.eq_ofNat_of_zero_le (show 0 ≤ bt by omega)
  obtain ⟨mx, rfl⟩ := Int.eq_ofNat_of_zero_le (show 0 ≤ mx by omega)
  have E1 : errC mn ((0 : Nat) : Int) mx = 0 := by unfold errC; rw [if_neg (by omega), if_neg (by omega)]
  have E2 : errC mn bt mn = 0 := by unfold errC; rw [if_neg (by omega), if_neg (by omega)]
  have HV1 := spl_even mn 0 mx (by omega) (endB_zero mn mx (by omega)) S.data.toList
  have HC : spl mn bt mn S.data.toList = spl mn 0 mx S.data.toList := spl_congr _ _ _ _ _ _ (fun T n => by rw [endB_same, endB_zero mn mx (by omega)]) _
  have HL := spl_len mn 0 mx S.data.toList
  rw [size_toList] at HL HV1
  have HE1 : Hid _ := E1
  have HE2 : Hid _ := E2
  have HVn := HV1.1
  have HV : Hid _ := HV1.2
  have HC : Hid _ := HC
  have HVN : Hid _ := HVn
  have hm1 : 1 ≤ mn := by omega
  have hm4 : mn ≤ 4096 := by omega
  clear HV1 E1 E2 HVn hmn hbt hmx
  have n1 : ¬ 4096 < mn := by omega
  have n2 : ¬ 20 < bt := by omega
  have n3 : ¬ mx < mn := by omega
  have n4 : ¬ 4096 < mx := by omega
  have n0 : ¬ mn < 1 := by omega
  go_wp2_with fail
  refine (split_good S mn 0 mx _ HE1.out (by omega)).mono ?_
  rintro e w1 ⟨v1, rfl, hO1, hB1⟩
  go_wp2_with fail
  refine (split_good S mn bt mn _ HE2.out (by omega)).mono ?_
  rintro e w2 ⟨v2, rfl, hO2, hb2⟩
  rw [HC.out] at hO2
  have hO1 := hO1.below hb2
  have hB2 := hB1.trans (hb2.mono hB1.size)
  clear HC hB1 hb2
  generalize spl mn 0 mx S.data.toList = L at *
  go_wp2_with fail
  refine (same_any v1 v2 L L _ hO1.rs hO2.rs (by omega) (by omega)).mono ?_
  rintro e w3 ⟨rfl, n, rfl⟩
  have hB3 := below_drewN hB2 n
  have hR1 : RS (w2.drewN n) v1 L := hO1.rs
  rw [show sameN L L = 0 from if_pos rfl]
  clear hO1 hO2 hB2
  generalize w2.drewN n = w3 at *
  obtain ⟨a, cap, rfl, hA⟩ := hR1
  have HA : Hid _ := hA
  clear hA
  have hq1 : ((S.size : Int) + (mn : Int) - 1) = ((S.size + mn - 1 : Nat) : Int) := by omega
  have hq2 : (((S.size + mn - 1 : Nat) : Int)).tdiv (mn : Int) = (L.length : Int) := by rw [HVN.out, Int.ofNat_tdiv]
  have hq3 : ((S.size : Int) + (mn : Int) - 1).tdiv (mn : Int) = (L.length : Int) := by rw [hq1]; exact hq2
  have hq4 : ((S.size : Int) + (mn : Int) - 1) / (mn : Int) = (L.length : Int) := by rw [hq1, HVN.out]; exact (Int.natCast_ediv _ _).symm
  have hmz : ((mn : Int) == 0) = false := by rw [beq_eq_false_iff_ne]; omega
  have hmz2 : ¬ (mn : Int) = 0 := by omega
  clear hq1 hq2
  go_wp2
  go_loop [84] (fun i => ∃ k : Nat, k ≤ L.length ∧ i = .int .i64 (k : Int)) (fun i => L.length - (intOf i).toNat)
  case atStart => exact ⟨0, by omega, rfl⟩
  case round =>
    obtain ⟨k, hk, rfl⟩ := hrel
    by_cases hlt : k < L.length
    · have hki : (k : Int) < (L.length : Int) := by omega
      obtain ⟨g, rfl, hg, hc⟩ := HA.out (fun e => by rw [e] at hlt; simp at hlt)
      have ck := hc k hlt
      have hsz := bsU_size (L.getD k [])
      by_cases hlast : k + 1 < L.length
      · have hx := HV.out k hlast
        have d3 : decide ((k : Int) + 1 < (L.length : Int)) = true := by rw [decide_eq_true_iff]; omega
        have d4 : (((bsU (L.getD k [])).size : Int) == (mn : Int)) = true := by rw [hsz, hx, beq_iff_eq]
        have d5 : (((bsU (L.getD k [])).size : Int) != (mn : Int)) = false := by rw [bne, d4]; rfl
        clear hc hsz hx
        generalize bsU (L.getD k []) = X at *
        go_wp2
        exact ⟨⟨k + 1, by omega, by go_num⟩, by simp [intOf]; omega⟩
      · have d3 : decide ((k : Int) + 1 < (L.length : Int)) = false := by rw [decide_eq_false_iff_not]; omega
        clear hc hsz
        generalize bsU (L.getD k []) = X at *
        go_wp2
        exact ⟨⟨k + 1, by omega, by go_num⟩, by simp [intOf]; omega⟩
    · go_wp2_with fail
      refine (awake10_any _).mono ?_
      rintro e w4 ⟨rfl, hb4⟩
      have hB4 := hB3.trans (hb4.mono hB3.size)
      go_wp2
      go_ret
      exact ⟨rfl, hB4⟩
end Go.Proofs.Ytnfemofighgenab
