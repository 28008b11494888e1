/- InflateCut: the walk. -/
import Derived.Test.YtdmnmclhfeoghabInfZ
import Derived.Test.YtdmnmclhfeoghabAwake6
import Derived.Test.YtdmnmclhfeoghabFew
namespace Go.Proofs.Ytdmnmclhfeoghab
open Go.RowKit
set_option linter.unusedVariables false

theorem few_b200 (s : ByteArray) (w : World) (hs : s.size ≤ 9223372036854775807) :
    Calls Try.prog 9 #[.string s, .int .i64 200] w fun e w' => e = .returned (.string (s.extract 0 200)) ∧ w' = w := few_any s 200 w (by decide) hs
theorem all_ex (s : ByteArray) : s = s.extract 0 s.size := by
  apply ByteArray.ext
  apply Array.ext'
  rw [extract_data, List.drop_zero, List.take_of_length_le (by rw [size_toList]; omega)]
theorem bits_cut (s : ByteArray) (c : Nat) (h : c ≤ s.size) : Alike (bF8 s) (bF8 (s.extract 0 c)) (8 * c) := by
  intro i hi
  unfold bF8 sbit
  rw [few_data, List.getD_eq_getElem?_getD, List.getD_eq_getElem?_getD, List.getElem?_take, if_pos (by omega)]
theorem bs_len (l : List Nat) : (bs l).size = l.length := by
  exact bs_size2 l
set_option maxRecDepth 100000 in
set_option maxHeartbeats 2000000 in
theorem lawInflateCut_walk (s : ByteArray) (cut less : Int) (w : World) (hs : s.size ≤ 140737488351232) (hc : -9223372036854775808 ≤ cut ∧ cut ≤ 9223372036854775807) (hl : -9223372036854775808 ≤ less ∧ less ≤ 9223372036854775807) :
    Calls Try.prog 6 #[.string s, .int .i64 cut, .int .i64 less] w fun e w' => e = .returned (.bool true) ∧ Below w.heap.size w w' := by
  have g1 : (s.extract 0 200).size ≤ 200 := by rw [few_size]; omega
  have HF1 : Hid (∀ W, Calls Try.prog 9 #[.string s, .int .i64 200] W fun e w' => e = .returned (.string (s.extract 0 200)) ∧ w' = W) := fun W => few_b200 s W (by omega)
  generalize hS : s.extract 0 200 = S at *
  clear hS
  generalize hr : blksF (bF8 S) (8 * S.size) 4000 (8 * S.size + 1) 0 0 [] = r
  have HI : Hid (∀ W, Calls _ _ _ W _) := fun W => inflate_good S S 0 4000 r W (Nat.zero_le _) (by decide) (by omega) (all_ex S) hr
  have HAW : Hid (∀ W, Calls Try.prog 14 #[] W fun e w' => e = .returned (.bool true) ∧ Below W.heap.size W w') := awake6_any
  go_enter Try.func6, Try.ntmps6
  go_wp2_with fail
  refine (HF1.out _).mono ?_
  rintro e w1 ⟨rfl, hw⟩
  obtain rfl : w = w1 := hw.symm
  clear hw HF1
  go_wp2_with fail
  refine (Hid.out HI w).mono ?_
  clear HI
  rintro e w2 (⟨l, q, rfl, rfl, hq, hb2⟩ | ⟨er, rfl, her, rfl, hb2⟩)
  · obtain ⟨o, new, hnew, hsay, _, ho, hmo⟩ := blksF_says (by decide) _ _ _ _ _ _ (Nat.zero_le _) hr
    rw [List.nil_append] at hnew
    subst hnew
    obtain ⟨O', hO1, hO2⟩ := hsay [] rfl
    have hTs : (bs (expF 9223372036854775807 (jkP l) []).1).size = o := by rw [bs_len, hO1]; exact hO2
    have HC : Hid (∀ c : Nat, c < (q + 7) / 8 → ∀ W, Calls Try.prog 12 #[.string (S.extract 0 c), .int .i64 0, .int .i64 4000] W fun e w' => e = .returned (.tuple #[.string ⟨#[]⟩, .int .i64 0, .int .i64 6]) ∧ Below W.heap.size W w') := by
      intro c hc' W
      have hcs : (S.extract 0 c).size = c := by rw [few_size]; omega
      have hcut := blksF_cut (g := bF8 (S.extract 0 c)) (M := 8 * (S.extract 0 c).size) (by rw [hcs]; exact bits_cut S c (by omega)) _ (8 * (S.extract 0 c).size + 1) _ _ _ _ _ hr (by rw [hcs]; omega)
      refine (inflate_good (S.extract 0 c) (S.extract 0 c) 0 4000 _ W (Nat.zero_le _) (by decide) (by omega) (all_ex _) hcut).mono ?_
      rintro e w9 (⟨l', q', h', _⟩ | ⟨er, h', _, rfl, hb9⟩)
      · cases h'
      · simp only [Except.error.injEq] at h'
        subst h'
        exact ⟨rfl, hb9⟩
    have HL : Hid (∀ W, Calls Try.prog 12 #[.string S, .int .i64 0, .int .i64 (o : Int)] W fun e w' => e = .returned (.tuple #[.string (bs (expF 9223372036854775807 (jkP l) []).1), .int .i64 (((q + 7) / 8 : Nat) : Int), .int .i64 0]) ∧ Below W.heap.size W w') := by
      intro W
      refine (inflate_good S S 0 o _ W (Nat.zero_le _) (by omega) (by omega) (all_ex S) ((hmo o (Nat.zero_le _)).1 (Nat.le_refl _))).mono ?_
      rintro e w9 (⟨l', q', h', rfl, _, hb9⟩ | ⟨er, h', _⟩)
      · simp only [Except.ok.injEq, Prod.mk.injEq] at h'
        obtain ⟨rfl, rfl⟩ := h'
        exact ⟨rfl, hb9⟩
      · cases h'
    have HM : Hid (∀ m : Nat, m < o → ∀ W, Calls Try.prog 12 #[.string S, .int .i64 0, .int .i64 (m : Int)] W fun e w' => e = .returned (.tuple #[.string ⟨#[]⟩, .int .i64 0, .int .i64 2]) ∧ Below W.heap.size W w') := by
      intro m hm W
      refine (inflate_good S S 0 m _ W (Nat.zero_le _) (by omega) (by omega) (all_ex S) ((hmo m (Nat.zero_le _)).2 hm)).mono ?_
      rintro e w9 (⟨l', q', h', _⟩ | ⟨er, h', _, rfl, hb9⟩)
      · cases h'
      · simp only [Except.error.injEq] at h'
        subst h'
        exact ⟨rfl, hb9⟩
    have hns : (q + 7) / 8 ≤ S.size := by omega
    clear hr hq hsay hmo hO1 hO2
    generalize (q + 7) / 8 = n at *
    generalize bs (expF 9223372036854775807 (jkP l) []).1 = T at *
    have HB2 : Hid (Below w.heap.size w w2) := hb2
    clear hb2
    by_cases hcut : 0 ≤ cut ∧ cut < (n : Int)
    · obtain ⟨c, rfl⟩ := Int.eq_ofNat_of_zero_le hcut.1
      have k1 : (0 : Int) ≤ (c : Int) := hcut.1
      have k2 : (c : Int) < (n : Int) := hcut.2
      have k3 : (c : Int) ≤ (S.size : Int) := by omega
      have HC1 : Hid (∀ W, Calls Try.prog 12 #[.string (S.extract 0 c), .int .i64 0, .int .i64 4000] W fun e w' => e = .returned (.tuple #[.string ⟨#[]⟩, .int .i64 0, .int .i64 6]) ∧ Below W.heap.size W w') := HC.out c (by omega)
      clear HC hcut
      go_wp2_with fail
      refine (HC1.out w2).mono ?_
      rintro e w3 ⟨rfl, hb3⟩
      have HB3 : Hid (Below w.heap.size w w3) := HB2.out.trans (hb3.mono HB2.out.size)
      clear hb3 HC1 HB2 k1 k2 k3
      have hTi : (T.size : Int) = (o : Int) := by omega
      go_wp2_with fail
      refine (HL.out w3).mono ?_
      rintro e w4 ⟨rfl, hb4⟩
      have HB4 : Hid (Below w.heap.size w w4) := HB3.out.trans (hb4.mono HB3.out.size)
      clear hb4 HL HB3
      by_cases hless : 0 ≤ less ∧ less < (o : Int)
      · obtain ⟨m, rfl⟩ := Int.eq_ofNat_of_zero_le hless.1
        have m1 : (0 : Int) ≤ (m : Int) := hless.1
        have m2 : (m : Int) < (o : Int) := hless.2
        have HM1 : Hid (∀ W, Calls Try.prog 12 #[.string S, .int .i64 0, .int .i64 (m : Int)] W fun e w' => e = .returned (.tuple #[.string ⟨#[]⟩, .int .i64 0, .int .i64 2]) ∧ Below W.heap.size W w') := HM.out m (by omega)
        clear HM hless
        go_wp2_with fail
        refine (HM1.out w4).mono ?_
        rintro e w5 ⟨rfl, hb5⟩
        have HB5 : Hid (Below w.heap.size w w5) := HB4.out.trans (hb5.mono HB4.out.size)
        clear hb5 HM1 HB4
        go_wp2_with fail
        refine (HAW.out w5).mono ?_
        rintro e w6 ⟨rfl, hb6⟩
        have HB6 : Hid (Below w.heap.size w w6) := HB5.out.trans (hb6.mono HB5.out.size)
        clear hb6
        go_wp2
        go_ret
        exact ⟨rfl, HB6.out⟩
      · by_cases hl0 : 0 ≤ less
        · have m2 : ¬ less < (o : Int) := fun h => hless ⟨hl0, h⟩
          clear HM hless
          go_wp2_with fail
          refine (HAW.out w4).mono ?_
          rintro e w6 ⟨rfl, hb6⟩
          have HB6 : Hid (Below w.heap.size w w6) := HB4.out.trans (hb6.mono HB4.out.size)
          clear hb6
          go_wp2
          go_ret
          exact ⟨rfl, HB6.out⟩
        · clear HM hless
          go_wp2_with fail
          refine (HAW.out w4).mono ?_
          rintro e w6 ⟨rfl, hb6⟩
          have HB6 : Hid (Below w.heap.size w w6) := HB4.out.trans (hb6.mono HB4.out.size)
          clear hb6
          go_wp2
          go_ret
          exact ⟨rfl, HB6.out⟩
    · have k1 : ¬ (0 ≤ cut ∧ cut < (n : Int)) := hcut
      by_cases hc0 : 0 ≤ cut
      · have k2 : ¬ cut < (n : Int) := fun h => hcut ⟨hc0, h⟩
        have HB3 : Hid (Below w.heap.size w w2) := HB2.out
        clear HC hcut k1 HB2
        have hTi : (T.size : Int) = (o : Int) := by omega
        go_wp2_with fail
        refine (HL.out w2).mono ?_
        rintro e w4 ⟨rfl, hb4⟩
        have HB4 : Hid (Below w.heap.size w w4) := HB3.out.trans (hb4.mono HB3.out.size)
        clear hb4 HL HB3
        by_cases hless : 0 ≤ less ∧ less < (o : Int)
        · obtain ⟨m, rfl⟩ := Int.eq_ofNat_of_zero_le hless.1
          have m1 : (0 : Int) ≤ (m : Int) := hless.1
          have m2 : (m : Int) < (o : Int) := hless.2
          have HM1 : Hid (∀ W, Calls Try.prog 12 #[.string S, .int .i64 0, .int .i64 (m : Int)] W fun e w' => e = .returned (.tuple #[.string ⟨#[]⟩, .int .i64 0, .int .i64 2]) ∧ Below W.heap.size W w') := HM.out m (by omega)
          clear HM hless
          go_wp2_with fail
          refine (HM1.out w4).mono ?_
          rintro e w5 ⟨rfl, hb5⟩
          have HB5 : Hid (Below w.heap.size w w5) := HB4.out.trans (hb5.mono HB4.out.size)
          clear hb5 HM1 HB4
          go_wp2_with fail
          refine (HAW.out w5).mono ?_
          rintro e w6 ⟨rfl, hb6⟩
          have HB6 : Hid (Below w.heap.size w w6) := HB5.out.trans (hb6.mono HB5.out.size)
          clear hb6
          go_wp2
          go_ret
          exact ⟨rfl, HB6.out⟩
        · by_cases hl0 : 0 ≤ less
          · have m2 : ¬ less < (o : Int) := fun h => hless ⟨hl0, h⟩
            clear HM hless
            go_wp2_with fail
            refine (HAW.out w4).mono ?_
            rintro e w6 ⟨rfl, hb6⟩
            have HB6 : Hid (Below w.heap.size w w6) := HB4.out.trans (hb6.mono HB4.out.size)
            clear hb6
            go_wp2
            go_ret
            exact ⟨rfl, HB6.out⟩
          · clear HM hless
            go_wp2_with fail
            refine (HAW.out w4).mono ?_
            rintro e w6 ⟨rfl, hb6⟩
            have HB6 : Hid (Below w.heap.size w w6) := HB4.out.trans (hb6.mono HB4.out.size)
            clear hb6
            go_wp2
            go_ret
            exact ⟨rfl, HB6.out⟩
      · have HB3 : Hid (Below w.heap.size w w2) := HB2.out
        clear HC hcut k1 HB2
        have hTi : (T.size : Int) = (o : Int) := by omega
        go_wp2_with fail
        refine (HL.out w2).mono ?_
        rintro e w4 ⟨rfl, hb4⟩
        have HB4 : Hid (Below w.heap.size w w4) := HB3.out.trans (hb4.mono HB3.out.size)
        clear hb4 HL HB3
        by_cases hless : 0 ≤ less ∧ less < (o : Int)
        · obtain ⟨m, rfl⟩ := Int.eq_ofNat_of_zero_le hless.1
          have m1 : (0 : Int) ≤ (m : Int) := hless.1
          have m2 : (m : Int) < (o : Int) := hless.2
          have HM1 : Hid (∀ W, Calls Try.prog 12 #[.string S, .int .i64 0, .int .i64 (m : Int)] W fun e w' => e = .returned (.tuple #[.string ⟨#[]⟩, .int .i64 0, .int .i64 2]) ∧ Below W.heap.size W w') := HM.out m (by omega)
          clear HM hless
          go_wp2_with fail
          refine (HM1.out w4).mono ?_
          rintro e w5 ⟨rfl, hb5⟩
          have HB5 : Hid (Below w.heap.size w w5) := HB4.out.trans (hb5.mono HB4.out.size)
          clear hb5 HM1 HB4
          go_wp2_with fail
          refine (HAW.out w5).mono ?_
          rintro e w6 ⟨rfl, hb6⟩
          have HB6 : Hid (Below w.heap.size w w6) := HB5.out.trans (hb6.mono HB5.out.size)
          clear hb6
          go_wp2
          go_ret
          exact ⟨rfl, HB6.out⟩
        · by_cases hl0 : 0 ≤ less
          · have m2 : ¬ less < (o : Int) := fun h => hless ⟨hl0, h⟩
            clear HM hless
            go_wp2_with fail
            refine (HAW.out w4).mono ?_
            rintro e w6 ⟨rfl, hb6⟩
            have HB6 : Hid (Below w.heap.size w w6) := HB4.out.trans (hb6.mono HB4.out.size)
            clear hb6
            go_wp2
            go_ret
            exact ⟨rfl, HB6.out⟩
          · clear HM hless
            go_wp2_with fail
            refine (HAW.out w4).mono ?_
            rintro e w6 ⟨rfl, hb6⟩
            have HB6 : Hid (Below w.heap.size w w6) := HB4.out.trans (hb6.mono HB4.out.size)
            clear hb6
            go_wp2
            go_ret
            exact ⟨rfl, HB6.out⟩
  · have heri : ((er : Int) != 0) = true := by simpa using her
    clear hr
    go_wp2_with fail
    refine (HAW.out w2).mono ?_
    rintro e w3 ⟨rfl, hb3⟩
    have HB3 : Hid (Below w.heap.size w w3) := hb2.trans (hb3.mono hb2.size)
    clear hb2 hb3
    go_wp2
    go_ret
    exact ⟨rfl, HB3.out⟩
end Go.Proofs.Ytdmnmclhfeoghab
