/- The walk of DiskDies. -/
import Derived.Test.YtgpfbahmkbdjmabDskP
import Derived.Test.YtgpfbahmkbdjmabDskQ
namespace Go.Proofs.Ytgpfbahmkbdjmab
open Go.RowKit Go.Maps
set_option linter.unusedVariables false
set_option linter.unusedSimpArgs false

theorem se_dead2 {S : DS} (h : dieS S = S) (hd : S.dead = true) : seE S = 10 ∧ seS S = S := by
  have := se_dead (S := S) (by rw [h]; exact hd)
  rw [h] at this; exact this
theorem rn_dead2 {S : DS} {x y : List UInt8} (h : dieS S = S) (hd : S.dead = true) : rnE S x y = 10 ∧ rnS S x y = S := by
  have := rnS_dead (S := S) (x := x) (y := y) (by rw [h]; exact hd)
  rw [h] at this; exact this
set_option maxRecDepth 100000 in
set_option maxHeartbeats 4000000 in
theorem lawDiskDies_walk (n c : Int) (w : World) (hn : -9223372036854775808 ≤ n ∧ n ≤ 9223372036854775807) (hc : -9223372036854775808 ≤ c ∧ c ≤ 9223372036854775807) :
    Calls Try.prog 4 #[.int .i64 n, .int .i64 c] w fun e w' => e = .returned (.bool true) ∧ Below w.heap.size w w' := by
  by_cases hout : n < 0 ∨ 60 < n ∨ c < 0 ∨ 60 < c
  · have HO : Hid (n < 0 ∨ 60 < n ∨ c < 0 ∨ 60 < c) := hout
    clear hout
    by_cases h1 : n < 0
    all_goals by_cases h2 : 60 < n
    all_goals by_cases h3 : c < 0
    all_goals by_cases h4 : 60 < c
    all_goals try (exfalso; have := HO.out; omega)
    all_goals
      go_enter Try.func4, Try.ntmps4
      go_wp2_with fail
      refine (new_good 1000 w (by decide) (by decide)).mono ?_
      rintro e w1 ⟨d, rfl, hd1, hb1⟩
      have HB1 : Hid (Below w.heap.size w w1) := hb1
      clear hd1 hb1
      go_wp2_with fail
      refine (awake14_any w1).mono ?_
      rintro e w2 ⟨rfl, hb2⟩
      have HB2 : Hid (Below w.heap.size w w2) := HB1.out.trans (hb2.mono HB1.out.size)
      clear hb2
      go_wp2
      go_ret
      exact ⟨rfl, HB2.out⟩
  obtain ⟨n, rfl⟩ := Int.eq_ofNat_of_zero_le (show 0 ≤ n by omega)
  obtain ⟨C, rfl⟩ := Int.eq_ofNat_of_zero_le (show 0 ≤ c by omega)
  have hn60 : n ≤ 60 := by omega
  have hC60 : C ≤ 60 := by omega
  have i1 : ¬ (n : Int) < 0 := by omega
  have i2 : ¬ (60 : Int) < (n : Int) := by omega
  have i3 : ¬ (C : Int) < 0 := by omega
  have i4 : ¬ (60 : Int) < (C : Int) := by omega
  clear hout hn hc
  go_enter Try.func4, Try.ntmps4
  go_wp2_with fail
  refine (new_good 1000 w (by decide) (by decide)).mono ?_
  rintro e w1 ⟨d, rfl, hd1, hb1⟩
  have HK1 : Hid (Keeps (fun k => k < w.heap.size) w w1) := Keeps.of_below hb1 (fun k hk => hk)
  have HD1 : Hid (DK w1 d (newS 1000) (fun k => k < w.heap.size) []) := hd1
  clear hd1 hb1
  go_wp2_with fail
  refine (arm_any w1 HD1.out (n : Int) (by omega) (by omega)).mono ?_
  rintro e w2 ⟨rfl, hd2, hk2⟩
  have HD2 : Hid (DK w2 d (stD n 0 0) (fun k => k < w.heap.size) []) := by unfold Hid; rw [stD_zero]; exact hd2
  have HK2 : Hid (Keeps (fun k => k < w.heap.size) w w2) := HK1.out.trans hk2
  clear hd2 hk2 HK1 HD1
  go_wp2
  go_loopw [7, 8] (fun u v wr => ∃ (i g : Nat) (gs : List Nat), i ≤ C ∧ v = .int .i64 (i : Int) ∧ u = .int .i64 ((min i n : Nat) : Int) ∧ DK wr d (stD n g i) (fun k => k < w.heap.size) gs ∧ Keeps (fun k => k < w.heap.size) w wr) (fun _ v _ => C - (intOf v).toNat)
  case atStart => exact ⟨0, 0, [], Nat.zero_le _, rfl, by simp, HD2.out, HK2.out⟩
  case round =>
    obtain ⟨i, g, gs, hi, rfl, rfl, hd, hk⟩ := hrel
    have HD : Hid (DK wr d (stD n g i) (fun k => k < w.heap.size) gs) := hd
    have HK : Hid (Keeps (fun k => k < w.heap.size) w wr) := hk
    obtain ⟨l1, l2, l3⟩ := stD_lens n g i
    clear hd hk HD2 HK2
    by_cases hlt : i < C
    · have hii : (i : Int) < (C : Int) := by omega
      by_cases hin : i < n
      · have HAP : Hid (Calls _ _ _ _ _) := append_any [97] [120] wr HD.out (by simp) (by simp) (by omega) (by omega)
        have HE : Hid (apE (stD n g i) [97] [120] = 0) := (stD_ap_ok n g i hn60 hin 0).1
        rw [show min i n = i by omega]
        have hini : (i : Int) < (n : Int) := by omega
        go_wp2_with fail
        refine HAP.out.mono ?_
        rw [HE.out]
        rintro e w3 ⟨rfl, ⟨g3, gs3, hd3, _, _⟩, hk3⟩
        rw [(stD_ap_ok n g i hn60 hin g3).2] at hd3
        have HD3 : Hid _ := hd3
        have HK3 : Hid (Keeps (fun k => k < w.heap.size) w w3) := HK.out.trans hk3
        clear hd3 hk3
        go_wp2
        go_roundw
        case rel => exact ⟨i + 1, _, _, by omega, by go_num, by rw [show min (i + 1) n = i + 1 by omega]; go_num, HD3.out, HK3.out⟩
        case measure => simp [intOf]; omega
      · have HAP : Hid (Calls _ _ _ _ _) := append_any [97] [120] wr HD.out (by simp) (by simp) (by omega) (by omega)
        have HE : Hid (apE (stD n g i) [97] [120] = 10) := (stD_ap_bad n g i (by omega) 0).1
        rw [show min i n = n by omega]
        have hini : ¬ (i : Int) < (n : Int) := by omega
        go_wp2_with fail
        refine HAP.out.mono ?_
        rw [HE.out]
        rintro e w3 ⟨rfl, ⟨g3, gs3, hd3, _, _⟩, hk3⟩
        rw [(stD_ap_bad n g i (by omega) g3).2] at hd3
        have HD3 : Hid _ := hd3
        have HK3 : Hid (Keeps (fun k => k < w.heap.size) w w3) := HK.out.trans hk3
        clear hd3 hk3
        go_wp2
        go_roundw
        case rel => exact ⟨i + 1, _, _, by omega, by go_num, by rw [show min (i + 1) n = n by omega], HD3.out, HK3.out⟩
        case measure => simp [intOf]; omega
    · obtain rfl : i = C := by omega
      have hii : ¬ (i : Int) < (i : Int) := by omega
      have HUS : Hid (Calls Try.prog 16 #[.pointer (some ⟨d, 0, none⟩)] wr fun e w' => e = .returned (.int .i64 ((min i n : Nat) : Int)) ∧ Below wr.heap.size wr w') := by
        have := used_any wr HD.out (by omega)
        rw [stD_used] at this; exact this
      have hKb : ∀ k, k < w.heap.size → k < wr.heap.size := HD.out.Kb
      have HKB : Hid (∀ k, k < w.heap.size → k < wr.heap.size) := hKb
      clear hKb
      have HCR : Hid _ := stD_crash n g i hn60
      obtain ⟨m, hm⟩ : ∃ m, min i n = m := ⟨_, rfl⟩
      have hmi : min (n : Int) (i : Int) = (m : Int) := by omega
      rw [hm]
      rw [hm] at HUS
      have hmm : ((m : Int) == (m : Int)) = true := by simp
      have HM : Hid (min i n = m) := hm
      clear hm
      by_cases hni : n < i
      · have hnii : (n : Int) < (i : Int) := by omega
        have hmn : min (n : Int) (i : Int) = (n : Int) := by omega
        have hds := stD_dies n g i hni
        have hdd : (stD n g i).dead = true := by rw [stD_dead]; simp; exact hni
        have HSE : Hid _ := se_dead2 hds hdd
        have HRN : Hid _ := rn_dead2 (x := [97]) (y := [98]) hds hdd
        have HRD : Hid _ := rd_dead (x := [97]) hdd
        clear hds hdd
        go_wp2_with fail
        refine HUS.out.mono ?_
        rintro e w4 ⟨rfl, hb4⟩
        have HD4 : Hid (DK w4 d (stD n g i) (fun k => k < w.heap.size) gs) := HD.out.below hb4
        have HK4 : Hid (Keeps (fun k => k < w.heap.size) w w4) := HK.out.trans (Keeps.of_below hb4 HKB.out)
        clear hb4
        go_wp2_with fail
        refine (read_any [97] w4 HD4.out (by simp)).mono ?_
        rw [HRD.out.1, HRD.out.2]
        rintro e w5 ⟨rfl, e5⟩
        have e5' := e5.symm
        subst e5'
        clear e5
        go_wp2_with fail
        refine (settle_any w4 HD4.out).mono ?_
        rw [HSE.out.1, HSE.out.2]
        rintro e w5 ⟨rfl, hd5, hk5⟩
        have HD5 : Hid (DK w5 d (stD n g i) (fun k => k < w.heap.size) gs) := hd5
        have HK5 : Hid (Keeps (fun k => k < w.heap.size) w w5) := HK4.out.trans hk5
        clear hd5 hk5
        have HR5 : Hid (Calls _ _ _ _ _) := rename_any [97] [98] w5 HD5.out (by simp) (by simp) (by omega) (by omega)
        go_wp2_with fail
        refine HR5.out.mono ?_
        rw [HRN.out.1, HRN.out.2]
        rintro e w6 ⟨rfl, hd6, hk6⟩
        have HDX : Hid (DK w6 d (stD n g i) (fun k => k < w.heap.size) gs) := hd6
        have HKX : Hid (Keeps (fun k => k < w.heap.size) w w6) := HK5.out.trans hk6
        clear hd6 hk6
        go_wp2_with fail
        refine (crash_one 1 w6 HDX.out (by decide) (by decide) (by omega)).mono ?_
        rintro e w7 ⟨rfl, hd7, hk7⟩
        have HD7 : Hid (DK w7 d (crS (stD n g i) [1]) (fun k => k < w.heap.size) gs) := hd7
        have HK7 : Hid (Keeps (fun k => k < w.heap.size) w w7) := HKX.out.trans hk7
        clear hd7 hk7
        go_wp2_with fail
        refine (awake14_any w7).mono ?_
        rintro e w8 ⟨rfl, hb8⟩
        have HD8 : Hid (DK w8 d (crS (stD n g i) [1]) (fun k => k < w.heap.size) gs) := HD7.out.below hb8
        have HK8 : Hid (Keeps (fun k => k < w.heap.size) w w8) := HK7.out.trans (Keeps.of_below hb8 HD7.out.Kb)
        clear hb8
        have HA8 : Hid (Calls _ _ _ _ _) := append_any [98] [121] w8 HD8.out (by simp) (by simp) (by have := HCR.out.2.1; omega) (by have := HCR.out.2.2; omega)
        go_wp2_with fail
        refine HA8.out.mono ?_
        rw [HCR.out.1]
        rintro e w9 ⟨rfl, _, hk9⟩
        have HK9 : Hid (Keeps (fun k => k < w.heap.size) w w9) := HK8.out.trans hk9
        clear hk9
        go_wp2
        go_ret
        exact ⟨rfl, HK9.out.below⟩
      · have hnii : ¬ (n : Int) < (i : Int) := by omega
        have hmn : min (n : Int) (i : Int) = (i : Int) := by omega
        go_wp2_with fail
        refine HUS.out.mono ?_
        rintro e w4 ⟨rfl, hb4⟩
        have HD4 : Hid (DK w4 d (stD n g i) (fun k => k < w.heap.size) gs) := HD.out.below hb4
        have HK4 : Hid (Keeps (fun k => k < w.heap.size) w w4) := HK.out.trans (Keeps.of_below hb4 HKB.out)
        clear hb4
        go_wp2_with fail
        refine (read_any [97] w4 HD4.out (by simp)).mono ?_
        generalize rdV (stD n g i) [97] = rv
        generalize rdE (stD n g i) [97] = re
        rintro e w5 ⟨rfl, e5⟩
        have e5' := e5.symm
        subst e5'
        clear e5
        have HDX : Hid (DK w4 d (stD n g i) (fun k => k < w.heap.size) gs) := HD4.out
        have HKX : Hid (Keeps (fun k => k < w.heap.size) w w4) := HK4.out
        go_wp2_with fail
        refine (crash_one 1 w4 HDX.out (by decide) (by decide) (by omega)).mono ?_
        rintro e w7 ⟨rfl, hd7, hk7⟩
        have HD7 : Hid (DK w7 d (crS (stD n g i) [1]) (fun k => k < w.heap.size) gs) := hd7
        have HK7 : Hid (Keeps (fun k => k < w.heap.size) w w7) := HKX.out.trans hk7
        clear hd7 hk7
        go_wp2_with fail
        refine (awake14_any w7).mono ?_
        rintro e w8 ⟨rfl, hb8⟩
        have HD8 : Hid (DK w8 d (crS (stD n g i) [1]) (fun k => k < w.heap.size) gs) := HD7.out.below hb8
        have HK8 : Hid (Keeps (fun k => k < w.heap.size) w w8) := HK7.out.trans (Keeps.of_below hb8 HD7.out.Kb)
        clear hb8
        have HA8 : Hid (Calls _ _ _ _ _) := append_any [98] [121] w8 HD8.out (by simp) (by simp) (by have := HCR.out.2.1; omega) (by have := HCR.out.2.2; omega)
        go_wp2_with fail
        refine HA8.out.mono ?_
        rw [HCR.out.1]
        rintro e w9 ⟨rfl, _, hk9⟩
        have HK9 : Hid (Keeps (fun k => k < w.heap.size) w w9) := HK8.out.trans hk9
        clear hk9
        go_wp2
        go_ret
        exact ⟨rfl, HK9.out.below⟩
end Go.Proofs.Ytgpfbahmkbdjmab
