/- The walk of PolyTexts. -/
import Derived.Test.YtnfemofighgenaaPolyD
import Derived.Test.YtnfemofighgenaaRPolD
import Derived.Test.YtnfemofighgenaaFew
namespace Go.Proofs.Ytnfemofighgenaa
open Go.RowKit
set_option linter.unusedVariables false

theorem conv_one (x : Nat) (hx : x < 256) (W : World) : (convert 43 9 (.slice (some ⟨W.heap.size, 0, none⟩) 1 1)).run Try.prog (W.alloc (.cells #[.int .u8 x] 5)) = .ok (.string (bs [x])) (W.alloc (.cells #[.int .u8 x] 5)) :=
  conv_bs (base := W.heap.size) (n := 1) (l := [x]) Try.underlying43 Try.underlying5 Try.underlying9 (World.ownsRow_lit W #[.int .u8 x] 1 (Nat.le_refl _) (by decide) rfl)
theorem one_rb (W : World) : RB (W.alloc (.cells #[.bool true] 4)) (.slice (some ⟨W.heap.size, 0, none⟩) 1 1) [true] :=
  ⟨W.heap.size, 1, rfl, by simp, fun i hi => by
    obtain rfl : i = 0 := by simpa using hi
    rw [cell_of_row _ _ _ _ _ _ (heap_alloc_new W _)]; rfl⟩
theorem pw_step (m p k : Nat) : pm (cm (pw m p k) p) m = pw m p (k + 1) := rfl
set_option maxRecDepth 100000 in
set_option maxHeartbeats 2000000 in
theorem lawPolyTexts_walk (s : ByteArray) (p n m c : Int) (w : World) (hs : s.size ≤ 140737488351232) (hp : 0 ≤ p ∧ p ≤ 18446744073709551615) (hn : 0 ≤ n ∧ n ≤ 18446744073709551615) (hm : 0 ≤ m ∧ m ≤ 18446744073709551615) (hc : 0 ≤ c ∧ c ≤ 255) :
    Calls Try.prog 4 #[.string s, .int .u64 p, .int .u64 n, .int .u64 m, .int .u8 c] w fun e w' => e = .returned (.bool true) ∧ Below w.heap.size w w' := by
  obtain ⟨p, rfl⟩ := Int.eq_ofNat_of_zero_le hp.1
  obtain ⟨n, rfl⟩ := Int.eq_ofNat_of_zero_le hn.1
  obtain ⟨m, rfl⟩ := Int.eq_ofNat_of_zero_le hm.1
  obtain ⟨c, rfl⟩ := Int.eq_ofNat_of_zero_le hc.1
  have hp : p < 18446744073709551616 := by omega
  have hm : m < 18446744073709551616 := by omega
  have hc : c < 256 := by omega
  have cn : (n : Int) % 200 = ((n % 200 : Nat) : Int) := by omega
  have ln : n % 200 < 200 := by omega
  clear hn
  generalize n % 200 = N at *
  have ln64 : N < 18446744073709551616 := by omega
  obtain ⟨i0, hi, hz0, hz1, hz2⟩ := info_parts Try.infoBo
  have hfs : (s.extract 0 100).size ≤ 100 := by rw [few_size]; omega
  go_enter Try.func4, Try.ntmps4
  go_wp2_with fail
  refine (few_any s 100 _ (by decide) (by omega)).mono ?_
  rintro e w' ⟨rfl, rfl⟩
  rw [show (100 : Int).toNat = 100 from rfl]
  generalize s.extract 0 100 = S at *
  by_cases hf : fitP m = true
  · obtain ⟨h2, h63⟩ := (fitP_iff m).1 hf
    have h0 : m ≠ 0 := bl_pos.1 (by omega)
    have HO : Hid (_ = _) := of_beN m h0 S.data.toList
    go_wp2_with fail
    refine (of_good S m _ (by omega) hm hf).mono ?_
    rintro e w' ⟨rfl, rfl⟩
    unfold okP
    go_wp2_with fail
    refine (power_good p N m _ hp ln64 hm hf).mono ?_
    rintro e w' ⟨rfl, rfl⟩
    unfold okP
    go_wp2_with fail
    refine (pappend_good p c m _ hp hc hm hf).mono ?_
    rintro e w' ⟨rfl, rfl⟩
    unfold okP
    go_wp2_with fail
    refine (rfit_any m _ hm).mono ?_
    rintro e w3 ⟨rfl, hB3⟩
    rw [hf]
    go_wp2_with fail
    refine (rrest_any _ _ _ _ (one_rb w3) (by decide) hm h0).mono ?_
    rintro e w4 ⟨rfl, hB4⟩
    have hB4 := hB3.trans (((Below.refl _ w3).alloc (Nat.le_refl _) _).trans (hB4.mono (by simp)) |>.mono hB3.size)
    have H1 : Hid (pm (nb [true]) m = pw m p 0) := pm_small (by rw [show nb [true] = 1 from rfl, bl_one]; omega)
    rw [H1.out]
    generalize hQ0 : ofP m S.data.toList = Q0 at *
    generalize hNX : nxt m p c = NX at *
    go_wp2
    go_loopw [17, 18] (fun x i wr => ∃ k : Nat, k ≤ N ∧ i = .int .u64 (k : Int) ∧ x = .int .u64 (pw m p k : Nat) ∧ Below w'.heap.size w' wr) (fun _ i _ => N - (intOf i).toNat)
    case atStart => exact ⟨0, by omega, rfl, rfl, hB4⟩
    case round =>
      clear hB4 hB3
      obtain ⟨k, hk, rfl, rfl, hB⟩ := hrel
      have hpk : pw m p k < 18446744073709551616 := lt64 (by have := pw_lt m p k h2; omega)
      by_cases hlt : k < N
      · have hki : (k : Int) < (N : Int) := by omega
        have hl1 : (bo (pw m p k)).length ≤ 64 := by rw [bo_len]; exact bl64 hpk
        have hl2 : (bo p).length ≤ 64 := by rw [bo_len]; exact bl64 hp
        go_wp2_with fail
        refine (rlist_any _ _ hpk).mono ?_
        rintro e w5 ⟨v5, rfl, hO5, hB5⟩
        have hB5 := hB.trans (hB5.mono hB.size)
        go_wp2_with fail
        refine (rlist_any _ _ hp).mono ?_
        rintro e w6 ⟨v6, rfl, hO6, hb6⟩
        have hB6 := hB5.trans (hb6.mono hB5.size)
        go_wp2_with fail
        refine (rproduct_any _ _ _ _ _ (hO5.below hb6).rb hO6.rb hl1 hl2).mono ?_
        rintro e w7 ⟨v7, L, rfl, hO7, hL, hN, hB7⟩
        have hB7 := hB6.trans (hB7.mono hB6.size)
        have HE : Hid (pm (nb L) m = pw m p (k + 1)) := by rw [hN, nb_bo, nb_bo]; exact pw_step m p k
        clear hN hO5 hO6 hb6
        go_wp2_with fail
        refine (rrest_any _ _ _ _ hO7.rb (by omega) hm h0).mono ?_
        rintro e w8 ⟨rfl, hB8⟩
        have hB8 := hB7.trans (hB8.mono hB7.size)
        rw [HE.out]
        clear hO7
        go_wp2
        go_roundw
        case rel => exact ⟨k + 1, by omega, by go_num, rfl, hB8⟩
        case measure => simp [intOf]; omega
      · obtain rfl : k = N := by omega
        have hcv := conv_one c hc
        have hB5 : Below w'.heap.size w' (wr.alloc (.cells #[.int .u8 (c : Int)] 5)) := hB.alloc hB.size _
        go_wp2_with fail
        refine (rtextP_any (bs [c]) _ (by rw [bs_size2]; simp)).mono ?_
        generalize wr.alloc (.cells #[.int .u8 (c : Int)] 5) = W5 at *
        rintro e w6 ⟨v6, L8, rfl, hO6, hL8, hN8, hb6⟩
        have hB6 := hB5.trans (hb6.mono hB5.size)
        rw [bs_size2] at hL8
        have hN8 : nb L8 = c := by
          rw [hN8, bs_data2]
          show 256 * 0 + (UInt8.ofNat c).toNat = c
          rw [UInt8.toNat_ofNat']; omega
        go_wp2_with fail
        refine (rlist_any p _ hp).mono ?_
        rintro e w7 ⟨v7, rfl, hO7, hb7⟩
        have hB7 := hB6.trans (hb7.mono hB6.size)
        have hO6 := (hO6.below hb7).mono hB5.size
        obtain ⟨g6, c6, rfl, ho6⟩ := hO6
        obtain ⟨g7, c7, rfl, hg7, hc7⟩ := hO7.rb
        have HN : Hid (∀ j u, (cbs (bo p))[j]? = some u → w7.cell? ((⟨g7, 0, none⟩ : Addr).add j) = some u) := fun j u hu => by
          have hj : j < (bo p).length := by have := (List.getElem?_eq_some_iff.1 hu).1; rwa [cbs_len] at this
          rw [Addr.add_lit, Nat.zero_add, hc7 j hj, ← cbs_at _ _ hj]; exact hu
        have HL : Hid ((cbs (bo p)).length = (bo p).length * 1) := by unfold Hid; rw [cbs_len, Nat.mul_one]
        have H1 : Hid (∀ u ∈ cbs (bo p), u.oneCell' = true) := cbs_one _
        have hl2 : (bo p).length ≤ 64 := by rw [bo_len]; exact bl64 hp
        have HNB : Hid (nb (L8 ++ bo p) = 256 * p + c) := by
          unfold Hid
          rw [nb_append, hN8, nb_bo, hL8]
          show c + p * 256 = _
          omega
        have HLL : Hid ((L8 ++ bo p).length ≤ 10000) := by unfold Hid; rw [List.length_append, hL8]; simp; omega
        clear hc7 hO7 hb7 hb6 hN8
        have hl8 : L8.length ≤ 8 := by rw [hL8]; simp
        clear hL8
        generalize hq8 : L8.length = q8 at *
        generalize hq9 : (bo p).length = q9 at *
        go_wp2_with (at_builtin; refine wpList_append_own _ rfl _ _ 34 rfl w'.heap.size 4 i0 (.bool false) 1 1 Try.underlying34 hi hz0 hz1 hz2 rfl (by decide) _ _ _ rfl ho6 ⟨g7, 0, none⟩ q9 c7 (cbs (bo p)) rfl HL.out HN.out H1.out ?c3 ?c4 ?c5 ?_)
        case c3 => unfold maxLen; omega
        case c4 => omega
        case c5 => have := hB7.size; first | omega | (simp; omega)
        intro v8 w8 hown8 hgrow8 hne8
        have hB8 : Below w'.heap.size w' w8 := hB7.grown hgrow8 hB7.size (fun k hk => (ho6.lt k hk).1)
        rw [← cbs_append] at hown8
        have hO8 := OB.of hown8 hne8
        clear hown8 hgrow8 hne8 ho6 HN HL H1
        go_wp2_with fail
        refine (awake9_any _).mono ?_
        rintro e w9 ⟨rfl, rfl⟩
        go_wp2_with fail
        refine (rtextP_any S _ (by omega)).mono ?_
        rintro e w10 ⟨v10, L10, rfl, hO10, hL10, hN10, hb10⟩
        have hO8 := hO8.below hb10
        have hB10 := hB8.trans (hb10.mono hB8.size)
        go_wp2_with fail
        refine (rrest_any _ _ _ _ hO10.rb (by omega) hm h0).mono ?_
        rintro e w11 ⟨rfl, hb11⟩
        have hO8 := hO8.below hb11
        have hB11 := hB10.trans (hb11.mono hB10.size)
        rw [hN10, ← HO.out]
        clear hO10 hN10 hL10
        go_wp2_with fail
        refine (rrest_any _ _ _ _ hO8.rb HLL.out hm h0).mono ?_
        rintro e w12 ⟨rfl, hb12⟩
        have hB12 := hB11.trans (hb12.mono hB11.size)
        rw [HNB.out, show pm (256 * p + c) m = NX from hNX]
        clear hO8
        go_wp2
        go_ret
        exact ⟨rfl, hB12⟩
  · have hf : fitP m = false := by simpa using hf
    go_wp2_with fail
    refine (of_bad S m _ hm hf).mono ?_
    rintro e w' ⟨rfl, rfl⟩
    unfold badP
    go_wp2_with fail
    refine (power_bad p N m _ hm hf).mono ?_
    rintro e w' ⟨rfl, rfl⟩
    unfold badP
    go_wp2_with fail
    refine (pappend_bad p c m _ hm hf).mono ?_
    rintro e w' ⟨rfl, rfl⟩
    unfold badP
    go_wp2_with fail
    refine (rfit_any m _ hm).mono ?_
    rintro e w3 ⟨rfl, hB3⟩
    rw [hf]
    go_wp2_with fail
    refine (awake9_any _).mono ?_
    rintro e w4 ⟨rfl, rfl⟩
    go_wp2
    go_ret
    exact ⟨rfl, hB3⟩
end Go.Proofs.Ytnfemofighgenaa
