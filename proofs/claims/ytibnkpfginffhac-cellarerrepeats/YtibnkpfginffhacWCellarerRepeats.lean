/- CellarerRepeats: the walk. -/
import Derived.Test.YtibnkpfginffhacEncF
import Derived.Test.YtibnkpfginffhacAwkI
import Derived.Test.YtibnkpfginffhacMatchJ
import Derived.Test.YtibnkpfginffhacSnkA
import Derived.Test.YtibnkpfginffhacSnkQ
import Derived.Test.YtibnkpfginffhacFew
import Derived.Deep.RegionHeld3
import Derived.Deep.RegionHeld
namespace Go.Proofs.Ytibnkpfginffhac
open Go.RowKit
set_option linter.unusedVariables false
set_option linter.unusedSimpArgs false

theorem near_le15 {n : Nat} (h : n ≤ 32) : near (n : Int) 32 = n := by unfold near; omega
/-- A code is put. -/
theorem turn_code {ns : List Nat} (h15 : all15 ns) (hf : fitB ns = true) (g t : Nat) (L : List Bool) (W : World) (ht : t < ns.length) (hp : 0 < ln ns t) (hS : SinkAt W g L) (hL : L.length ≤ 3000000000000000000) :
    Calls Try.prog 9 #[.pointer (some ⟨g, 0, none⟩), .int .u32 (cdOf ns t : Int), .int .i64 (ln ns t : Int)] W fun e w' => e = .returned (.tuple #[]) ∧ SinkAt w' g (L ++ codeS ns t) ∧ W.grownBy w' (some g) := by
  have h32 := h15.at t
  have hcd : cdOf ns t < 4294967296 := by
    rw [cdOf_at _ _ hp]
    exact Nat.lt_of_lt_of_le (cd_lt ns h15 hf t ht hp) (Nat.le_trans (Nat.pow_le_pow_right (n := 2) (i := ln ns t) (j := 32) (by decide) (by omega)) (by decide))
  have := wturn_any g L (cdOf ns t) (ln ns t : Int) W hS hcd hL (by omega)
  rw [near_le15 (by omega)] at this
  exact this
theorem put_bits (g x n : Nat) (L : List Bool) (W : World) (hx : x < 4294967296) (hn : n ≤ 32) (hS : SinkAt W g L) (hL : L.length ≤ 3000000000000000000) :
    Calls Try.prog 19 #[.pointer (some ⟨g, 0, none⟩), .int .u32 (x : Int), .int .i64 (n : Int)] W fun e w' => e = .returned (.tuple #[]) ∧ SinkAt w' g (L ++ lowB x n) ∧ W.grownBy w' (some g) := by
  have := wput_any g L x (n : Int) W hS hx hL (by omega)
  rw [near_le15 hn] at this
  exact this
/-- The codes of these lengths lie in a row. -/
theorem CR.cells {w : World} {g n : Nat} {b l : Nat → Nat} (h : CR w g n b l) {i : Nat} (hi : i < n) : w.cell? ⟨g, i * 2, none⟩ = some (.int .u32 (b i : Int)) ∧ w.cell? ⟨g, i * 2 + 1, none⟩ = some (.int .i64 (l i : Int)) :=
  ⟨by rw [h.cell (i := i * 2) (by omega), codeF_even], by rw [h.cell (i := i * 2 + 1) (by omega), codeF_odd]⟩
set_option maxHeartbeats 4000000 in
set_option maxRecDepth 100000 in
theorem lawCellarerRepeats_walk (s0 : ByteArray) (lv : Int) (w : World) (hs0 : s0.size ≤ 140737488351232) (hlv : -9223372036854775808 ≤ lv ∧ lv ≤ 9223372036854775807) :
    Calls Try.prog 4 #[.string s0, .int .i64 lv] w fun e w' => e = .returned (.bool true) ∧ Below w.heap.size w w' := by
  have hsz : (s0.extract 0 (600 : Int).toNat).size ≤ 600 := by rw [few_size]; exact Nat.min_le_left _ _
  have HFW : Hid (∀ W, Calls Try.prog 6 #[.string s0, .int .i64 600] W fun e w' => e = .returned (.string (s0.extract 0 (600 : Int).toNat)) ∧ w' = W) := fun W => few_any s0 600 W (by decide) (by omega)
  generalize s0.extract 0 (600 : Int).toNat = s at *
  obtain ⟨v, hv9, hv⟩ : ∃ v : Nat, v ≤ 9 ∧ max 0 (min lv 9) = (v : Int) := ⟨(max 0 (min lv 9)).toNat, by omega, by omega⟩
  go_enter Try.func4, Try.ntmps4
  go_wp2_with fail
  refine (aw_inf w).mono ?_
  rintro e w1 ⟨rfl, hb1⟩
  have HB1 : Hid (Below w.heap.size w w1) := hb1
  clear hb1
  go_wp2_with fail
  refine (HFW.out _).mono ?_
  rintro e w1' ⟨rfl, hw1⟩
  obtain rfl : w1 = w1' := hw1.symm
  clear HFW hw1
  go_upto_region 5 with fail
  go_cut [8, 9] (fun a b wx => ∃ v2, a = v2 ∧ b = .int .i64 0 ∧ TR wx v2 (toks s v) ∧ Below w.heap.size w wx)
  case first =>
    by_cases h9 : lv ≤ 9
    · by_cases h0 : 0 ≤ lv
      · have hm1 : min lv 9 = lv := by omega
        have hm2 : max 0 lv = lv := by omega
        obtain rfl : lv = (v : Int) := by omega
        clear hv
        go_wp2_with fail
        refine (tokens_ok s v w1 (by omega) (by omega)).mono ?_
        rintro e w2 ⟨v2, rfl, hT, hb2⟩
        go_wp2
        go_meet
        exact ⟨v2, rfl, rfl, hT, HB1.out.trans (hb2.mono HB1.out.size)⟩
      · have hm1 : min lv 9 = lv := by omega
        have hm2 : max 0 lv = 0 := by omega
        have hm3 : lv ≤ 0 := by omega
        obtain rfl : v = 0 := by omega
        clear hv
        go_wp2_with fail
        refine (tokens_ok s 0 w1 (by omega) (by omega)).mono ?_
        rintro e w2 ⟨v2, rfl, hT, hb2⟩
        go_wp2
        go_meet
        exact ⟨v2, rfl, rfl, hT, HB1.out.trans (hb2.mono HB1.out.size)⟩
    · have hm1 : min lv 9 = 9 := by omega
      have hm2 : (max 0 9 : Int) = 9 := by omega
      obtain rfl : v = 9 := by omega
      clear hv
      go_wp2_with fail
      refine (tokens_ok s 9 w1 (by omega) (by omega)).mono ?_
      rintro e w2 ⟨v2, rfl, hT, hb2⟩
      go_wp2
      go_meet
      exact ⟨v2, rfl, rfl, hT, HB1.out.trans (hb2.mono HB1.out.size)⟩
  case rest =>
    obtain ⟨v2, rfl, rfl, hT, hb2⟩ := hcut
    clear HB1 hv hlv
    have hts := toks_len s v
    have HSAY : Hid (∀ M : Int, (s.size : Int) ≤ M → expF M (toks s v) [] = (nb s, 0)) := fun M h => toks_says s v M h
    have HALL : Hid (AllTok (toks s v)) := toks_all s v
    generalize toks s v = ts at *
    obtain ⟨ta, tc, rfl, hTf⟩ := hT.form
    have l1 : (zz fixL).length = 288 := by rw [zz_len]; decide +kernel
    have l2 : (zz fixD).length = 32 := by rw [zz_len]; decide +kernel
    have hsz2 := hb2.size
    go_wp2_with fail
    refine (lengths_any _).mono ?_
    rintro e w3 ⟨va, vb, rfl, hA, hD, hb3⟩
    have hIA := own_IO hA (by decide)
    have hID := own_IO hD (by decide)
    obtain ⟨aa, ca, rfl⟩ := own_slice hA
    obtain ⟨ad, cd', rfl⟩ := own_slice hD
    have HC1 : Hid (Calls _ _ _ _ _) := codes_okO _ (zz fixL) w3 hIA (fitE_ok fixL_fit).1
    rw [l1, zz_toN] at HC1
    go_wp2_with fail
    refine (Hid.out HC1 : Calls _ _ _ _ _).mono ?_
    rintro e w4 ⟨rfl, hC4, hb4⟩
    have HC2 : Hid (Calls _ _ _ _ _) := codes_okO _ (zz fixD) w4 (hID.below hb4) (fitE_ok fixD_fit).1
    rw [l2, zz_toN] at HC2
    go_wp2_with fail
    refine (Hid.out HC2 : Calls _ _ _ _ _).mono ?_
    rintro e w5 ⟨rfl, hC5, hb5⟩
    have hB5 : Below w.heap.size w w5 := ((hb2.trans (hb3.mono hsz2)).trans (hb4.mono (Nat.le_trans hsz2 hb3.size))).trans (hb5.mono (Nat.le_trans hsz2 (Nat.le_trans hb3.size hb4.size)))
    have g3 : w3.heap.size < w4.heap.size := hC4.lt
    have g4 : w4.heap.size < w5.heap.size := hC5.lt
    have HCL : Hid (∀ W, (w5.alloc (.cells snk0 36)).grownBy W (some w5.heap.size) → ∀ i, i < 288 → W.cell? ⟨w3.heap.size, i * 2, none⟩ = some (.int .u32 (cdOf fixL i : Int)) ∧ W.cell? ⟨w3.heap.size, i * 2 + 1, none⟩ = some (.int .i64 (ln fixL i : Int))) := fun W hg i hi => by
      have h1 := ((hC4.since hb5).since ((Below.refl _ w5).alloc (Nat.le_refl _) (.cells snk0 36))).cells hi
      exact ⟨hg.cell h1.1 (fun e => by have := Option.some.inj e; simp only at this; omega), hg.cell h1.2 (fun e => by have := Option.some.inj e; simp only at this; omega)⟩
    have HCD : Hid (∀ W, (w5.alloc (.cells snk0 36)).grownBy W (some w5.heap.size) → ∀ i, i < 32 → W.cell? ⟨w4.heap.size, i * 2, none⟩ = some (.int .u32 (cdOf fixD i : Int)) ∧ W.cell? ⟨w4.heap.size, i * 2 + 1, none⟩ = some (.int .i64 (ln fixD i : Int))) := fun W hg i hi => by
      have h1 := (hC5.since ((Below.refl _ w5).alloc (Nat.le_refl _) (.cells snk0 36))).cells hi
      exact ⟨hg.cell h1.1 (fun e => by have := Option.some.inj e; simp only at this; omega), hg.cell h1.2 (fun e => by have := Option.some.inj e; simp only at this; omega)⟩
    have HTK : Hid (∀ W, (w5.alloc (.cells snk0 36)).grownBy W (some w5.heap.size) → ∀ i t, ts[i]? = some t → ∃ g, ta = some ⟨g, 0, none⟩ ∧ W.cell? ⟨g, i * 3, none⟩ = some (.int .u8 (t.b : Int)) ∧ W.cell? ⟨g, i * 3 + 1, none⟩ = some (.int .i64 t.l) ∧ W.cell? ⟨g, i * 3 + 2, none⟩ = some (.int .i64 t.d)) := fun W hg i t ht => by
      obtain ⟨g, h1, h2, c0, c1, c2⟩ := hTf i t ht
      have hb : Below wc.heap.size wc (w5.alloc (.cells snk0 36)) := ((hb3.trans (hb4.mono hb3.size)).trans (hb5.mono (Nat.le_trans hb3.size hb4.size))).alloc (Nat.le_trans hb3.size (Nat.le_trans hb4.size hb5.size)) _
      have hlt : g < w5.heap.size := Nat.lt_of_lt_of_le h2 (Nat.le_trans hb3.size (Nat.le_trans hb4.size hb5.size))
      refine ⟨g, h1, hg.cell (by rw [hb.cell (p := ⟨g, i * 3, none⟩) h2]; exact c0) (fun e => by have := Option.some.inj e; simp only at this; omega), hg.cell (by rw [hb.cell (p := ⟨g, i * 3 + 1, none⟩) h2]; exact c1) (fun e => by have := Option.some.inj e; simp only at this; omega), hg.cell (by rw [hb.cell (p := ⟨g, i * 3 + 2, none⟩) h2]; exact c2) (fun e => by have := Option.some.inj e; simp only at this; omega)⟩
    have HTR : Hid (∀ W, (w5.alloc (.cells snk0 36)).grownBy W (some w5.heap.size) → TR W (.slice ta ts.length tc) ts) := fun W hg => by
      have hb : Below wc.heap.size wc (w5.alloc (.cells snk0 36)) := ((hb3.trans (hb4.mono hb3.size)).trans (hb5.mono (Nat.le_trans hb3.size hb4.size))).alloc (Nat.le_trans hb3.size (Nat.le_trans hb4.size hb5.size)) _
      rcases hT with h | ⟨g, cap, e1, h2, h3⟩
      · exact .inl h
      · have hlt : g < w5.heap.size := Nat.lt_of_lt_of_le h2 (Nat.le_trans hb3.size (Nat.le_trans hb4.size hb5.size))
        exact .inr ⟨g, cap, e1, Nat.lt_of_lt_of_le (Nat.lt_of_lt_of_le hlt (by rw [World.size_alloc]; omega)) hg.size, fun i t ht => by
          obtain ⟨a1, a2, a3⟩ := h3 i t ht
          rw [← hb.cell (p := ⟨g, i * 3, none⟩) h2] at a1
          rw [← hb.cell (p := ⟨g, i * 3 + 1, none⟩) h2] at a2
          rw [← hb.cell (p := ⟨g, i * 3 + 2, none⟩) h2] at a3
          exact ⟨hg.cell a1 (fun e => by have := Option.some.inj e; simp only at this; omega), hg.cell a2 (fun e => by have := Option.some.inj e; simp only at this; omega), hg.cell a3 (fun e => by have := Option.some.inj e; simp only at this; omega)⟩⟩
    have HBW : Hid (∀ W, (w5.alloc (.cells snk0 36)).grownBy W (some w5.heap.size) → Below w.heap.size w W) := fun W hg => grown_below (hB5.alloc hB5.size _) hg (by rw [World.size_alloc]; have := hB5.size; omega) hB5.size
    have HS0 : Hid (SinkAt (w5.alloc (.cells snk0 36)) w5.heap.size []) := sink_zero w5
    have HP1 : Hid (Calls _ _ _ _ _) := put_bits w5.heap.size 1 1 [] (w5.alloc (.cells snk0 36)) (by decide) (by decide) HS0.out (by decide)
    generalize hg3 : w3.heap.size = gl at *
    generalize hg4 : w4.heap.size = gd at *
    generalize hg5 : w5.heap.size = g at *
    clear hIA hID hC4 hC5 hb3 hb4 hb5 hTf hB5 hb2 HC1 HC2 hA hD hT l1 l2
    go_wp2_with fail
    refine (Hid.out HP1 : Calls _ _ _ _ _).mono ?_
    rintro e w6 ⟨rfl, hS6, hG6⟩
    have HP2 : Hid (Calls _ _ _ _ _) := put_bits g 1 2 _ w6 (by decide) (by decide) hS6 (by decide)
    go_wp2_with fail
    refine (Hid.out HP2 : Calls _ _ _ _ _).mono ?_
    rintro e w7 ⟨rfl, hS7, hG7⟩
    have HS7 : Hid (SinkAt w7 g ([true, true, false] ++ encs fixL fixD (ts.take 0))) := hS7
    have HG7 : Hid ((w5.alloc (.cells snk0 36)).grownBy w7 (some g)) := gtrans hG6 hG7
    clear HP1 HP2 hS6 hG6 hS7 hG7 HS0
    generalize World.alloc w5 _ = W0 at *
    have HLE : Hid (∀ k, (encs fixL fixD (ts.take k)).length ≤ 60 * 600) := fun k => by
      have h1 := encs_le fixL_lens.1 fixD_lens.1 (ts.take k)
      have h2 : (ts.take k).length ≤ 600 := by rw [List.length_take]; omega
      omega
    go_wp2
    go_loopw [96] (fun i wr => ∃ k : Nat, k ≤ ts.length ∧ i = .int .i64 (k : Int) ∧ SinkAt wr g ([true, true, false] ++ encs fixL fixD (ts.take k)) ∧ W0.grownBy wr (some g)) (fun i _ => ts.length - (intOf i).toNat)
    case atStart => exact ⟨0, Nat.zero_le _, rfl, HS7.out, HG7.out⟩
    case round =>
      clear HS7 HG7
      obtain ⟨k, hk, rfl, hS, hG⟩ := hrel
      by_cases hlt : k < ts.length
      · obtain ⟨t, ht⟩ : ∃ t, ts[k]? = some t := ⟨_, List.getElem?_eq_getElem hlt⟩
        obtain ⟨gt, e1, c0, c1, c2⟩ := HTK.out wr hG k t ht
        subst e1
        have hki : (k : Int) < (ts.length : Int) := by omega
        have hki0 : (0 : Int) ≤ (k : Int) := by omega
        have HENC : Hid (encs fixL fixD (ts.take (k + 1)) = encs fixL fixD (ts.take k) ++ encT fixL fixD t) := by
          unfold Hid
          rw [List.take_add_one, ht]; exact encs_snoc _ _ _ _
        obtain ⟨hk1, hb8⟩ := HALL.out t (List.mem_of_getElem? ht)
        have hle := HLE.out k
        have HCO := fixed_code hk1 hb8
        clear ht HLE
        obtain ⟨tb, tl, td⟩ := t
        simp only at c0 c1 c2 hb8
        have HSA : Hid (SinkAt (wr.alloc (.cells #[.int .u8 (tb : Int), .int .i64 tl, .int .i64 td] 57)) g ([true, true, false] ++ encs fixL fixD (ts.take k))) := hS.below ((Below.refl _ wr).alloc (Nat.le_refl _) _)
        have HGA : Hid (W0.grownBy (wr.alloc (.cells #[.int .u8 (tb : Int), .int .i64 tl, .int .i64 td] 57)) (some g)) := galloc hG _
        have hN := heap_alloc_new wr (.cells #[.int .u8 (tb : Int), .int .i64 tl, .int .i64 td] 57)
        obtain ⟨d0, d1, d2, _⟩ := tok_cell hN
        have hgt : g < wr.heap.size := hS.lt
        generalize encs fixL fixD (ts.take k) = E at *
        clear hS hG hN
        by_cases hl0 : tl = 0
        · subst hl0
          obtain ⟨x0, x1⟩ := HCL.out _ HGA.out tb (by omega)
          have HTU : Hid (∀ W, SinkAt W g ([true, true, false] ++ E) → Calls _ _ _ _ _) := fun W h => turn_code fixL_lens.1 fixL_lens.2.2 g tb _ W HCO.2.1 HCO.2.2.1 h (by simp; omega)
          have HE2 : Hid (([true, true, false] ++ E) ++ codeS fixL tb = [true, true, false] ++ encs fixL fixD (ts.take (k + 1))) := by unfold Hid; rw [HENC.out, List.append_assoc]; rfl
          generalize cdOf fixL tb = X at *
          generalize ln fixL tb = M at *
          generalize ([true, true, false] ++ E) ++ codeS fixL tb = LX at *
          generalize [true, true, false] ++ E = L0 at *
          have ti : (tb : Int) < 288 := by omega
          have ti0 : (0 : Int) ≤ (tb : Int) := by omega
          go_wp2
          generalize World.alloc wr _ = WA at *
          generalize wr.heap.size = gk at *
          go_region_held (fun w' => w'.cell? ⟨gl, tb * 2, none⟩ = some (.int .u32 (X : Int)) ∧ w'.cell? ⟨gl, tb * 2 + 1, none⟩ = some (.int .i64 (M : Int)) ∧ w'.cell? ⟨gk, 0, none⟩ = some (.int .u8 (tb : Int))) (first | exact ⟨x0, x1, d0⟩ | assumption | exact ⟨hG9.cell x0 (fun e => by have := Option.some.inj e; simp only at this; omega), hG9.cell x1 (fun e => by have := Option.some.inj e; simp only at this; omega), hG9.cell d0 (fun e => by have := Option.some.inj e; simp only at this; omega)⟩)
            (first | (go_at_call 9; refine (HTU.out _ HSA.out.drew).mono ?_; rintro e w9 ⟨rfl, hS9, hG9⟩))
          have HS9 : Hid (SinkAt w9 g ([true, true, false] ++ encs fixL fixD (ts.take (k + 1)))) := by unfold Hid; rw [← HE2.out]; exact hS9
          have HG9 : Hid (W0.grownBy w9 (some g)) := gtrans (gdrew HGA.out) hG9
          clear hS9 hG9 HSA HGA HTU HE2
          go_wp2
          go_roundw
          case rel => exact ⟨k + 1, by omega, by go_num, HS9.out, HG9.out⟩
          case measure => simp [intOf]; omega
        · obtain ⟨hb0, h3, h258, h1, h32⟩ := isTok_rep hl0 hk1
          simp only at hb0 h3 h258 h1 h32
          subst hb0
          obtain ⟨l, rfl⟩ : ∃ n : Nat, tl = (n : Int) := ⟨tl.toNat, by omega⟩
          obtain ⟨d, rfl⟩ : ∃ n : Nat, td = (n : Int) := ⟨td.toNat, by omega⟩
          obtain ⟨n1, n2, n3, n4⟩ := noF_near (x := l) (by omega) (by omega)
          obtain ⟨m1, m2, m3, m4⟩ := noF_far (x := d) (by omega) (by omega)
          have s1 := szF_bd false (noF l false)
          have s2 := szF_bd true (noF d true)
          have HE2 : Hid ((((([true, true, false] ++ E) ++ codeS fixL (257 + noF l false)) ++ lowB (l - (szF (noF l false) false).1) (szF (noF l false) false).2) ++ codeS fixD (noF d true)) ++ lowB (d - (szF (noF d true) true).1) (szF (noF d true) true).2 = [true, true, false] ++ encs fixL fixD (ts.take (k + 1))) := by
            have hsym : symT ⟨0, l, d⟩ = 257 + noF l false := by unfold symT; rw [if_neg hl0]; rfl
            unfold Hid
            rw [HENC.out]
            unfold encT
            rw [if_neg hl0, hsym]
            simp only [List.append_assoc]
            rfl
          have HK1 : Hid (bmK l false (0, 0, 0) 29 = (noF l false, (szF (noF l false) false).1, (szF (noF l false) false).2)) := bmK_near l (0, 0, 0) (by omega)
          have HK2 : Hid (∀ z, bmK d true z 30 = (noF d true, (szF (noF d true) true).1, (szF (noF d true) true).2)) := fun z => bmK_far d z (by omega)
          have hl0i : ((l : Int) == 0) = false := by simp; omega
          clear HCO hk1
          simp only [show ((0 : Nat) : Int) = 0 from rfl] at HSA HGA d0 d1 d2
          go_wp2
          generalize World.alloc wr _ = WA at *
          generalize wr.heap.size = gk at *
          go_loop [19, 20, 21, 22] (fun a b c q => ∃ K : Nat, K ≤ 29 ∧ q = .int .i64 (K : Int) ∧ a = .int .i64 ((bmK l false (0, 0, 0) K).1 : Int) ∧ b = .int .i64 ((bmK l false (0, 0, 0) K).2.1 : Int) ∧ c = .int .i64 ((bmK l false (0, 0, 0) K).2.2 : Int)) (fun _ _ _ q => 29 - (intOf q).toNat)
          case atStart => exact ⟨0, by omega, rfl, rfl, rfl, rfl⟩
          case round =>
            obtain ⟨K, hK, rfl, rfl, rfl, rfl⟩ := hrel
            by_cases hKl : K < 29
            · have hKi : (K : Int) ≤ 28 := by omega
              have HBK : Hid (bmK l false (0, 0, 0) (K + 1) = if (szF K false).1 ≤ l then (K, (szF K false).1, (szF K false).2) else bmK l false (0, 0, 0) K) := rfl
              have HSZ : Hid (∀ W, Calls _ _ _ _ _) := fun W => size_any K false W
              generalize bmK l false (0, 0, 0) K = BK at *
              generalize (szF K false).1 = z1 at *
              generalize (szF K false).2 = z2 at *
              go_wp2_with fail
              refine (HSZ.out _).mono ?_
              rintro e w' ⟨rfl, rfl⟩
              by_cases hle2 : z1 ≤ l
              · have hli : (z1 : Int) ≤ (l : Int) := by omega
                rw [if_pos hle2] at HBK
                go_wp2
                go_round
                case rel => exact ⟨K + 1, by omega, by go_num, by rw [HBK.out], by rw [HBK.out], by rw [HBK.out]⟩
                case measure => simp [intOf]; omega
              · have hli : ¬ (z1 : Int) ≤ (l : Int) := by omega
                rw [if_neg hle2] at HBK
                go_wp2
                go_round
                case rel => exact ⟨K + 1, by omega, by go_num, by rw [HBK.out], by rw [HBK.out], by rw [HBK.out]⟩
                case measure => simp [intOf]; omega
            · have hKn : ¬ (K : Int) ≤ 28 := by omega
              have HKK : Hid (bmK l false (0, 0, 0) K = (noF l false, (szF (noF l false) false).1, (szF (noF l false) false).2)) := by unfold Hid; rw [show K = 29 by omega]; exact HK1.out
              rw [HKK.out]
              simp only
              clear HKK HK1
              generalize noF l false = nl at *
              generalize (szF nl false).1 = bl at *
              generalize (szF nl false).2 = ml at *
              obtain ⟨x0, x1⟩ := HCL.out _ HGA.out (257 + nl) (by omega)
              have HTU : Hid (∀ W, SinkAt W g ([true, true, false] ++ E) → Calls _ _ _ _ _) := fun W h => turn_code fixL_lens.1 fixL_lens.2.2 g (257 + nl) _ W (by rw [show fixL.length = 288 by decide +kernel]; omega) (fixL_pos (257 + nl) (by omega)) h (by simp; omega)
              have HL1 : Hid ((([true, true, false] ++ E) ++ codeS fixL (257 + nl)).length ≤ 60000) := by
                have := fixL_lens.1.at (257 + nl)
                unfold Hid; rw [List.length_append, codeS_len]; simp; omega
              generalize cdOf fixL (257 + nl) = X at *
              generalize ln fixL (257 + nl) = M at *
              generalize ([true, true, false] ++ E) ++ codeS fixL (257 + nl) = L1 at *
              generalize [true, true, false] ++ E = L0 at *
              have ti : (257 : Int) + (nl : Int) < 288 := by omega
              have ti0 : (0 : Int) ≤ (257 : Int) + (nl : Int) := by omega
              have hgk : g < gk := hgt
              have hw7 : IntKind.i64.wrap (257 + (nl : Int)) = 257 + (nl : Int) := by rw [IntKind.wrap_i64]; omega
              have ti1 : (nl : Int) < 31 := by omega
              have ti2 : ((257 : Int) + (nl : Int)).toNat = 257 + nl := by omega
              go_wp2
              go_region_held (fun w' => w'.cell? ⟨gl, (257 + nl) * 2, none⟩ = some (.int .u32 (X : Int)) ∧ w'.cell? ⟨gl, (257 + nl) * 2 + 1, none⟩ = some (.int .i64 (M : Int))) (first | exact ⟨x0, x1⟩ | assumption | exact ⟨hG9.cell x0 (fun e => by have := Option.some.inj e; simp only at this; omega), hG9.cell x1 (fun e => by have := Option.some.inj e; simp only at this; omega)⟩)
                (first | (go_at_call 9; refine (HTU.out _ HSA.out.drew).mono ?_; rintro e w9 ⟨rfl, hS9, hG9⟩))
              have HG9 : Hid (W0.grownBy w9 (some g)) := gtrans (gdrew HGA.out) hG9
              have e1 : w9.cell? ⟨gk, 1, none⟩ = some (.int .i64 (l : Int)) := hG9.cell (show (WA.drew).cell? ⟨gk, 1, none⟩ = _ from d1) (fun e => by have := Option.some.inj e; simp only at this; omega)
              have e2' : w9.cell? ⟨gk, 2, none⟩ = some (.int .i64 (d : Int)) := hG9.cell (show (WA.drew).cell? ⟨gk, 2, none⟩ = _ from d2) (fun e => by have := Option.some.inj e; simp only at this; omega)
              have HS9 : Hid (SinkAt w9 g L1) := hS9
              have hsub : (l : Int) - (bl : Int) = ((l - bl : Nat) : Int) := by omega
              have HPU : Hid (Calls _ _ _ _ _) := put_bits g (l - bl) ml L1 w9 (by omega) (by omega) HS9.out (by have := HL1.out; omega)
              clear hS9 hG9 x0 x1 HTU HSA HGA d0 d1 d2
              go_wp2_with fail
              refine (Hid.out HPU : Calls _ _ _ _ _).mono ?_
              rintro e w10 ⟨rfl, hS10, hG10⟩
              have HG10 : Hid (W0.grownBy w10 (some g)) := gtrans HG9.out hG10
              have e2 : w10.cell? ⟨gk, 2, none⟩ = some (.int .i64 (d : Int)) := hG10.cell e2' (fun e => by have := Option.some.inj e; simp only at this; omega)
              have HL2 : Hid ((L1 ++ lowB (l - bl) ml).length ≤ 70000) := by
                have := HL1.out
                unfold Hid; rw [List.length_append, lowB_len]; omega
              have HS10 : Hid (SinkAt w10 g (L1 ++ lowB (l - bl) ml)) := hS10
              generalize L1 ++ lowB (l - bl) ml = L2 at *
              have hL2 := HL2.out
              clear hS10 hG10 HPU HS9 HG9 e1 e2' hsub hKn hKl
              go_wp2
              go_loop [19, 20, 21, 25] (fun a b c q => ∃ K : Nat, K ≤ 30 ∧ q = .int .i64 (K : Int) ∧ a = .int .i64 ((bmK d true (nl, bl, ml) K).1 : Int) ∧ b = .int .i64 ((bmK d true (nl, bl, ml) K).2.1 : Int) ∧ c = .int .i64 ((bmK d true (nl, bl, ml) K).2.2 : Int)) (fun _ _ _ q => 30 - (intOf q).toNat)
              case atStart => exact ⟨0, by omega, rfl, rfl, rfl, rfl⟩
              case round =>
                obtain ⟨K, hK, rfl, rfl, rfl, rfl⟩ := hrel
                by_cases hKl : K < 30
                · have hKi : (K : Int) ≤ 29 := by omega
                  have HBK : Hid (bmK d true (nl, bl, ml) (K + 1) = if (szF K true).1 ≤ d then (K, (szF K true).1, (szF K true).2) else bmK d true (nl, bl, ml) K) := rfl
                  have HSZ : Hid (∀ W, Calls _ _ _ _ _) := fun W => size_any K true W
                  generalize bmK d true (nl, bl, ml) K = BK at *
                  generalize (szF K true).1 = z1 at *
                  generalize (szF K true).2 = z2 at *
                  go_wp2_with fail
                  refine (HSZ.out _).mono ?_
                  rintro e w' ⟨rfl, rfl⟩
                  by_cases hle2 : z1 ≤ d
                  · have hli : (z1 : Int) ≤ (d : Int) := by omega
                    rw [if_pos hle2] at HBK
                    go_wp2
                    go_round
                    case rel => exact ⟨K + 1, by omega, by go_num, by rw [HBK.out], by rw [HBK.out], by rw [HBK.out]⟩
                    case measure => simp [intOf]; omega
                  · have hli : ¬ (z1 : Int) ≤ (d : Int) := by omega
                    rw [if_neg hle2] at HBK
                    go_wp2
                    go_round
                    case rel => exact ⟨K + 1, by omega, by go_num, by rw [HBK.out], by rw [HBK.out], by rw [HBK.out]⟩
                    case measure => simp [intOf]; omega
                · have hKn : ¬ (K : Int) ≤ 29 := by omega
                  have HKK : Hid (bmK d true (nl, bl, ml) K = (noF d true, (szF (noF d true) true).1, (szF (noF d true) true).2)) := by unfold Hid; rw [show K = 30 by omega]; exact HK2.out _
                  rw [HKK.out]
                  simp only
                  clear HKK HK2
                  generalize noF d true = nd at *
                  generalize (szF nd true).1 = bd at *
                  generalize (szF nd true).2 = md at *
                  obtain ⟨y0, y1⟩ := HCD.out _ HG10.out nd (by omega)
                  have HTV : Hid (∀ W, SinkAt W g L2 → Calls _ _ _ _ _) := fun W h => turn_code fixD_lens.1 fixD_lens.2.2 g nd L2 W (by rw [show fixD.length = 32 by decide +kernel]; omega) (fixD_pos nd (by omega)) h (by omega)
                  have HL3 : Hid ((L2 ++ codeS fixD nd).length ≤ 100000) := by
                    have := fixD_lens.1.at nd
                    unfold Hid; rw [List.length_append, codeS_len]; omega
                  generalize cdOf fixD nd = X2 at *
                  generalize ln fixD nd = M2 at *
                  generalize L2 ++ codeS fixD nd = L3 at *
                  have ni : (nd : Int) < 32 := by omega
                  have ni0 : (0 : Int) ≤ (nd : Int) := by omega
                  go_wp2
                  go_region_held (fun w' => w'.cell? ⟨gd, nd * 2, none⟩ = some (.int .u32 (X2 : Int)) ∧ w'.cell? ⟨gd, nd * 2 + 1, none⟩ = some (.int .i64 (M2 : Int))) (first | exact ⟨y0, y1⟩ | assumption | exact ⟨hG11.cell y0 (fun e => by have := Option.some.inj e; simp only at this; omega), hG11.cell y1 (fun e => by have := Option.some.inj e; simp only at this; omega)⟩)
                    (first | (go_at_call 9; refine (HTV.out _ HS10.out.drew).mono ?_; rintro e w11 ⟨rfl, hS11, hG11⟩))
                  have HG11 : Hid (W0.grownBy w11 (some g)) := gtrans (gdrew HG10.out) hG11
                  have f2 : w11.cell? ⟨gk, 2, none⟩ = some (.int .i64 (d : Int)) := hG11.cell (show (w10.drew).cell? ⟨gk, 2, none⟩ = _ from e2) (fun e => by have := Option.some.inj e; simp only at this; omega)
                  have HS11 : Hid (SinkAt w11 g L3) := hS11
                  have hsub2 : (d : Int) - (bd : Int) = ((d - bd : Nat) : Int) := by omega
                  have HPU2 : Hid (Calls _ _ _ _ _) := put_bits g (d - bd) md L3 w11 (by omega) (by omega) HS11.out (by have := HL3.out; omega)
                  clear hS11 hG11 y0 y1 HTV HS10 HG10
                  go_wp2_with fail
                  refine (Hid.out HPU2 : Calls _ _ _ _ _).mono ?_
                  rintro e w12 ⟨rfl, hS12, hG12⟩
                  have HS12 : Hid (SinkAt w12 g ([true, true, false] ++ encs fixL fixD (ts.take (k + 1)))) := by unfold Hid; rw [← HE2.out]; exact hS12
                  have HG12 : Hid (W0.grownBy w12 (some g)) := gtrans HG11.out hG12
                  clear hS12 hG12 HPU2 HS11 HG11 HE2
                  go_wp2
                  go_roundw
                  case rel => exact ⟨k + 1, by omega, by go_num, HS12.out, HG12.out⟩
                  case measure => simp [intOf]; omega
      · obtain rfl : k = ts.length := by omega
        rw [List.take_length] at hS
        obtain ⟨x0, x1⟩ := HCL.out _ hG 256 (by decide)
        have hle := HLE.out ts.length
        rw [List.take_length] at hle
        have HTU : Hid (∀ W, SinkAt W g ([true, true, false] ++ encs fixL fixD ts) → Calls _ _ _ _ _) := fun W h => turn_code fixL_lens.1 fixL_lens.2.2 g 256 _ W (by decide +kernel) (fixL_pos 256 (by decide)) h (by simp; omega)
        have HLF : Hid ((([true, true, false] ++ encs fixL fixD ts) ++ codeS fixL 256).length = 3 + (encs fixL fixD ts).length + 7) := by
          unfold Hid; rw [List.length_append, List.length_append, codeS_len, show ln fixL 256 = 7 by decide +kernel]; simp
        have HBK : Hid (blksF (bF8 (packS (([true, true, false] ++ encs fixL fixD ts) ++ codeS fixL 256))) (8 * (packS (([true, true, false] ++ encs fixL fixD ts) ++ codeS fixL 256)).size) s.size (8 * (packS (([true, true, false] ++ encs fixL fixD ts) ++ codeS fixL 256)).size + 1) 0 0 [] = .ok ([⟨1, [], ts⟩], 3 + (encs fixL fixD ts).length + 7)) := by
          have hb := bF8_pack (([true, true, false] ++ encs fixL fixD ts) ++ codeS fixL 256)
          rw [List.append_assoc] at hb ⊢
          have hps := packS_size ([true, true, false] ++ (encs fixL fixD ts ++ codeS fixL 256))
          rw [← List.append_assoc, HLF.out, List.append_assoc] at hps
          have hnl : ts.length ≤ (encs fixL fixD ts).length := encs_ge HALL.out
          exact blks_fixed hb (by omega) (fun t ht => fixed_code (HALL.out t ht).1 (HALL.out t ht).2) (HSAY.out _ (Int.le_refl _)) (by omega)
        have HPS : Hid (((3 + (encs fixL fixD ts).length + 7 + 7) / 8 : Nat) = (packS (([true, true, false] ++ encs fixL fixD ts) ++ codeS fixL 256)).size) := by
          unfold Hid; rw [packS_size, HLF.out]
        have HJK : Hid (bs (expF 9223372036854775807 (jkP [⟨1, [], ts⟩]) []).1 = s) := by
          have : jkP [⟨1, [], ts⟩] = ts := by simp [jkP, bkP]
          unfold Hid
          rw [this, HSAY.out _ (by omega)]
          exact bs_nb s
        have HEX : Hid (∀ W, TR W (.slice ta ts.length tc) ts → Calls Try.prog 21 #[.slice ta ts.length tc, .int .i64 (s.size : Int)] W fun e w' => e = .returned (.tuple #[.string s, .int .i64 0]) ∧ Below W.heap.size W w') := fun W h => by
          have := expand_any _ ts (s.size : Int) W h (by omega) (by omega) (by omega)
          rw [HSAY.out _ (Int.le_refl _)] at this
          simp only [bs_nb] at this
          exact this
        have HS : Hid (SinkAt wr g ([true, true, false] ++ encs fixL fixD ts)) := hS
        have HG : Hid (W0.grownBy wr (some g)) := hG
        have hQQ : 3 + (encs fixL fixD ts).length + 7 ≤ 40000 := by omega
        generalize 3 + (encs fixL fixD ts).length + 7 = QQ at *
        generalize cdOf fixL 256 = X at *
        generalize ln fixL 256 = M at *
        generalize ([true, true, false] ++ encs fixL fixD ts) ++ codeS fixL 256 = LF at *
        generalize [true, true, false] ++ encs fixL fixD ts = L0 at *
        clear hS hG hle HLE HTK HCL HCD HALL HSAY
        go_wp2
        go_region_held (fun w' => w'.cell? ⟨gl, 512, none⟩ = some (.int .u32 (X : Int)) ∧ w'.cell? ⟨gl, 513, none⟩ = some (.int .i64 (M : Int))) (first | exact ⟨x0, x1⟩ | assumption | exact ⟨hG9.cell x0 (fun e => by have := Option.some.inj e; simp only at this; omega), hG9.cell x1 (fun e => by have := Option.some.inj e; simp only at this; omega)⟩)
          (first | (go_at_call 9; refine (HTU.out _ HS.out.drew).mono ?_; rintro e w9 ⟨rfl, hS9, hG9⟩))
        have hG9' : W0.grownBy w9 (some g) := gtrans (gdrew HG.out) hG9
        have HT9 : Hid (TR w9 (.slice ta ts.length tc) ts) := HTR.out w9 hG9'
        have hB9 : Below w.heap.size w w9 := HBW.out w9 hG9'
        have HB9 : Hid (Below w.heap.size w w9) := hB9
        have HS9 : Hid (SinkAt w9 g LF) := hS9
        clear hS9 hG9 hG9' HS HG HTU x0 x1 HTR HBW hB9
        have hlf := HLF.out
        go_wp2_with fail
        refine (all_any g LF w9 HS9.out (by omega)).mono ?_
        rintro e w10 ⟨rfl, hb10⟩
        have HIG : Hid (Calls _ _ _ _ _) := inflate_good (packS LF) (packS LF) 0 s.size _ w10 (Nat.zero_le _) (by omega) (by rw [← HPS.out]; omega) (by simp) HBK.out
        have hpz : (packS LF).size ≤ 10000 := by rw [← HPS.out]; omega
        clear hlf
        go_wp2_with fail
        refine (Hid.out HIG : Calls _ _ _ _ _).mono ?_
        rintro e w11 (⟨bl, q, hr, rfl, _, hb11⟩ | ⟨er, hr, _⟩)
        · obtain ⟨rfl, rfl⟩ : bl = [⟨1, [], ts⟩] ∧ q = QQ := by
            simp only [Except.ok.injEq, Prod.mk.injEq] at hr
            exact ⟨hr.1.symm, hr.2.symm⟩
          rw [HJK.out, HPS.out]
          have HT11 := (HT9.out.below hb10).below hb11
          have HEX2 : Hid (Calls _ _ _ _ _) := HEX.out w11 HT11
          have HS11 := (HS9.out.below hb10).below hb11
          have HB11 := (HB9.out.trans (hb10.mono HB9.out.size)).trans (hb11.mono (Nat.le_trans HB9.out.size hb10.size))
          clear HT11 HT9 HS9 HB9 hb10 hb11 hr HIG HJK HPS HEX HBK
          go_wp2_with fail
          refine (Hid.out HEX2 : Calls _ _ _ _ _).mono ?_
          rintro e w12 ⟨rfl, hb12⟩
          have HB12 := HB11.trans (hb12.mono HB11.size)
          have HAL : Hid (Calls _ _ _ _ _) := all_any g LF w12 (HS11.below hb12) (by have := HLF.out; omega)
          clear HEX2 hb12 HB11 HS11 HLF
          generalize packS LF = PF at *
          go_wp2_with fail
          refine (Hid.out HAL : Calls _ _ _ _ _).mono ?_
          rintro e w13 ⟨rfl, hb13⟩
          have HB13 := HB12.trans (hb13.mono HB12.size)
          clear HAL hb13 HB12
          go_wp2
          go_ret
          exact ⟨rfl, HB13⟩
        · cases hr
end Go.Proofs.Ytibnkpfginffhac
