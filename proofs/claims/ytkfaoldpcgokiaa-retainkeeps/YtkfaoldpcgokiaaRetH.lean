/- Contracts: the document's Kept and Check. -/
import Derived.Test.YtkfaoldpcgokiaaRetP
import Derived.Test.YtkfaoldpcgokiaaRetG
namespace Go.Proofs.Ytkfaoldpcgokiaa
open Go.RowKit
set_option linter.unusedVariables false
set_option linter.unusedSimpArgs false

theorem rk_toList (p : List UInt8) : (mkB p).toList = p := by
  show (⟨p.toArray⟩ : ByteArray).toList = p
  simp
theorem rk_beq (a b : List UInt8) : ((mkB a).toList == (mkB b).toList) = decide (a = b) := by
  rw [rk_toList, rk_toList]
  by_cases h : a = b
  · subst h; simp
  · rw [decide_eq_false h, beq_eq_false_iff_ne]; exact h
theorem bdrewN {B : Nat} {a b : World} (h : Below B a b) (n : Nat) : Below B a (b.drewN n) := ⟨h.os, h.tape, h.output, h.size, h.block⟩
theorem sp1 : spF 1 = dyN := by funext x; rfl
theorem sp2 : spF 2 = wkN := by funext x; rfl
theorem sp3 : spF 3 = moF := by funext x; rfl
set_option maxRecDepth 100000 in
set_option maxHeartbeats 2000000 in
theorem rkept_any (p : Pol) (tv : Value) (a : Option Addr) (N cap : Nat) (l : List Sn) (i : Nat) (w : World) (hP : PolIn w w.heap.size p tv) (hV : SV w w.heap.size (.slice a N cap) l) (hN : N = l.length) (hi : i < N) (hN2 : N ≤ 1000) (ht : ∀ x ∈ l, tOk x) :
    Calls Try.prog 13 #[polV p tv, .slice a N cap, .int .i64 (i : Int)] w fun e w' => e = .returned (.bool (bF (kpL p l) i)) ∧ Below w.heap.size w w' := by
  obtain ⟨x, hx⟩ : ∃ x, l[i]? = some x := ⟨_, List.getElem?_eq_getElem (by rw [← hN]; exact hi)⟩
  have HN : Hid (N = l.length) := hN
  have HT : Hid (∀ x ∈ l, tOk x) := ht
  have HOR : Hid (bF (kpL p l) i = (((((decide ((N : Int) - i ≤ p.a)) || tgAt p.tg l i) || kAt p.d dyN l i) || kAt p.k wkN l i) || kAt p.m moF l i)) := by
    unfold Hid; rw [hN]; exact bF_or p l i (by rw [← hN]; exact hi)
  have HTA : Hid (tgAt p.tg l i = decide (x.g ∈ p.tg)) := by unfold Hid tgAt; rw [hx]; rfl
  obtain ⟨W1, hW1⟩ : ∃ W1, W1 = w.alloc (.cells #[.int .i64 p.a, .int .i64 p.d, .int .i64 p.k, .int .i64 p.m, tv] 34) := ⟨_, rfl⟩
  have hb1 : Below w.heap.size w W1 := by rw [hW1]; exact (Below.refl _ w).alloc (Nat.le_refl _) _
  have hN1 : W1.heap[w.heap.size]? = some (.cells #[.int .i64 p.a, .int .i64 p.d, .int .i64 p.k, .int .i64 p.m, tv] 34 (0, 0)) := by rw [hW1]; exact heap_alloc_new w _
  have hz1 : w.heap.size < W1.heap.size := (Array.getElem?_eq_some_iff.1 hN1).1
  have HB1 : Hid (Below w.heap.size w W1) := hb1
  have HV1 : Hid (SV W1 w.heap.size (.slice a N cap) l) := hV.below hb1
  have HT1 : Hid (TV W1 w.heap.size tv p.tg) := hP.tv.below hb1
  have HC : Hid (∀ W, Below W1.heap.size W1 W → (W.cell? ⟨w.heap.size, 0, none⟩ = some (.int .i64 p.a) ∧ W.cell? ⟨w.heap.size, 1, none⟩ = some (.int .i64 p.d) ∧ W.cell? ⟨w.heap.size, 2, none⟩ = some (.int .i64 p.k) ∧ W.cell? ⟨w.heap.size, 3, none⟩ = some (.int .i64 p.m) ∧ W.cell? ⟨w.heap.size, 4, none⟩ = some tv)) := fun W hW => by
    have h := (hW.block _ hz1).trans hN1
    refine ⟨?_, ?_, ?_, ?_, ?_⟩ <;> (unfold World.cell?; rw [h]; rfl)
  have HON : Hid (∀ (k : Nat) (c : Int) (W : World), (k = 1 ∨ k = 2 ∨ k = 3) → Below W1.heap.size W1 W → Calls Try.prog 21 #[.slice a N cap, .int .i64 (i : Int), .int .i64 (k : Int), .int .i64 c] W fun e w' => e = .returned (.bool (kAt c (spF k) l i)) ∧ Below W1.heap.size W1 w') := fun k c W hk hW => by
    have hs : w.heap.size ≤ W.heap.size := Nat.le_trans hb1.size hW.size
    have := one_any k a N cap l i c W hk (((HV1.out).below (hW.mono hb1.size)).mono hs) HN.out hi hN2 HT.out
    exact this.mono fun e w' ⟨h1, h2⟩ => ⟨h1, hW.trans (h2.mono hW.size)⟩
  have HDONE : Hid (∀ W, Below W1.heap.size W1 W → Below w.heap.size w W) := fun W hW => hb1.trans (hW.mono hb1.size)
  obtain ⟨g, o, rfl, hg1, hg, -, hcap, s0, s1, s2⟩ := HV1.out.at hx
  obtain ⟨ta, tc, rfl, htc, -⟩ := hP.tv
  have h63 := hP.ok.n
  obtain ⟨m, hm⟩ : ∃ m, m = p.tg.length := ⟨_, rfl⟩
  have HM : Hid (m = p.tg.length) := hm
  rw [← hm] at hW1 HT1 HC h63 htc ⊢
  obtain ⟨c0, c1, c2, c3, c4⟩ := HC.out W1 (Below.refl _ _)
  clear hm hN1 hb1 hV hP hN ht hx
  unfold polV
  go_enter Try.func13, Try.ntmps13
  go_upto_region 1 with fail
  rw [← hW1]
  clear hW1
  go_wp2
  go_loopw [12] (fun j wr => ∃ q : Nat, q ≤ m ∧ j = .int .i64 (q : Int) ∧ Hid (x.g ∉ p.tg.take q) ∧ wr = W1) (fun j _ => m - (intOf j).toNat)
  case atStart => exact ⟨0, Nat.zero_le _, rfl, by unfold Hid; simp, rfl⟩
  case round =>
    obtain ⟨q, hq, rfl, HQ, hw⟩ := hrel
    rw [hw]
    clear hw
    by_cases hlt : q < m
    · have hlti : (q : Int) < (m : Int) := by omega
      have hqt : q < p.tg.length := by rw [← HM.out]; exact hlt
      obtain ⟨gt, ot, rfl, hgt, hgt2, -, hcapt, t0⟩ := HT1.out.at hqt
      have HEQ : ((mkB (p.tg.getD q [])).toList == (mkB x.g).toList) = decide (p.tg.getD q [] = x.g) := rk_beq _ _
      have HNX : Hid (p.tg.getD q [] ≠ x.g → x.g ∉ p.tg.take (q + 1)) := fun hne => by
        rw [List.take_add_one, List.getElem?_eq_getElem hqt, List.mem_append]
        rintro (h | h)
        · exact HQ.out h
        · simp at h
          exact hne (by rw [List.getD_eq_getElem?_getD, List.getElem?_eq_getElem hqt]; exact h.symm)
      have HYX : Hid (p.tg.getD q [] = x.g → x.g ∈ p.tg) := fun he => by
        rw [← he, List.getD_eq_getElem?_getD, List.getElem?_eq_getElem hqt]; exact List.getElem_mem hqt
      generalize p.tg.getD q [] = tq at *
      by_cases he : tq = x.g
      · have HR : Hid (bF (kpL p l) i = true) := by
          unfold Hid; rw [HOR.out, HTA.out, decide_eq_true (HYX.out he)]; simp
        rw [decide_eq_true he] at HEQ
        clear he
        go_wp2
        go_ret
        exact ⟨by rw [HR.out]; rfl, HB1.out⟩
      · have HQ2 := HNX.out he
        have HQ3 : Hid (x.g ∉ p.tg.take (q + 1)) := HQ2
        rw [decide_eq_false he] at HEQ
        clear he HQ2
        go_wp2
        go_roundw
        case rel => exact ⟨q + 1, by omega, by go_num, HQ3.out, by first | rfl | trivial⟩
        case measure => simp [intOf]; omega
    · have hlti : ¬ (q : Int) < (m : Int) := by omega
      have HNT : Hid (tgAt p.tg l i = false) := by
        have := HQ.out
        rw [List.take_of_length_le (by rw [← HM.out]; omega)] at this
        unfold Hid; rw [HTA.out, decide_eq_false this]
      have HR : Hid (bF (kpL p l) i = (((decide ((N : Int) - i ≤ p.a) || kAt p.d dyN l i) || kAt p.k wkN l i) || kAt p.m moF l i)) := by
        unfold Hid; rw [HOR.out, HNT.out, Bool.or_false]
      have hws : IntKind.i64.wrap ((N : Int) - (i : Int)) = (N : Int) - (i : Int) := by rw [IntKind.wrap_i64]; omega
      clear HQ HOR HTA
      by_cases hb : (N : Int) - (i : Int) ≤ p.a
      · have HE : Hid (bF (kpL p l) i = true) := by unfold Hid; rw [HR.out, decide_eq_true hb]; simp
        go_wp2
        go_ret
        exact ⟨by rw [HE.out]; rfl, HB1.out⟩
      · have HE : Hid (bF (kpL p l) i = ((kAt p.d dyN l i || kAt p.k wkN l i) || kAt p.m moF l i)) := by unfold Hid; rw [HR.out, decide_eq_false hb, Bool.false_or]
        have H1 := HON.out 1 p.d W1 (.inl rfl) (Below.refl _ _)
        rw [sp1, show ((1 : Nat) : Int) = 1 from rfl] at H1
        generalize kAt p.d dyN l i = b1 at *
        clear HR
        go_wp2_with fail
        refine H1.mono ?_
        rintro e w2 ⟨rfl, hb2⟩
        have HB2 : Hid (Below W1.heap.size W1 w2) := hb2
        clear hb2 H1 c0 c1 c2 c3 c4
        obtain ⟨c0, c1, c2, c3, c4⟩ := HC.out w2 HB2.out
        cases b1 with
        | true =>
          have HEE : Hid (bF (kpL p l) i = true) := by unfold Hid; rw [HE.out]; simp
          go_wp2
          go_ret
          exact ⟨by rw [HEE.out]; rfl, HDONE.out _ HB2.out⟩
        | false =>
          have H2 := HON.out 2 p.k w2 (.inr (.inl rfl)) HB2.out
          rw [sp2, show ((2 : Nat) : Int) = 2 from rfl] at H2
          generalize kAt p.k wkN l i = b2 at *
          go_wp2_with fail
          refine H2.mono ?_
          rintro e w3 ⟨rfl, hb3⟩
          have HB3 : Hid (Below W1.heap.size W1 w3) := hb3
          clear hb3 H2 c0 c1 c2 c3 c4
          obtain ⟨c0, c1, c2, c3, c4⟩ := HC.out w3 HB3.out
          cases b2 with
          | true =>
            have HEE : Hid (bF (kpL p l) i = true) := by unfold Hid; rw [HE.out]; simp
            go_wp2
            go_ret
            exact ⟨by rw [HEE.out]; rfl, HDONE.out _ HB3.out⟩
          | false =>
            have H3 := HON.out 3 p.m w3 (.inr (.inr rfl)) HB3.out
            rw [sp3, show ((3 : Nat) : Int) = 3 from rfl] at H3
            have HEE : Hid (bF (kpL p l) i = kAt p.m moF l i) := by unfold Hid; rw [HE.out]; simp
            go_wp2_with fail
            refine H3.mono ?_
            rintro e w4 ⟨rfl, hb4⟩
            have HB4 : Hid (Below W1.heap.size W1 w4) := hb4
            clear hb4 H3 c0 c1 c2 c3 c4
            generalize kAt p.m moF l i = b3 at *
            go_wp2
            go_ret
            exact ⟨by rw [HEE.out]; rfl, HDONE.out _ HB4.out⟩
set_option maxRecDepth 100000 in
set_option maxHeartbeats 1000000 in
theorem rcheck_neg (p : Pol) (tv v : Value) (w : World) (h : p.neg) :
    Calls Try.prog 10 #[polV p tv, v] w fun e w' => e = .returned (.int .i64 1) ∧ Below w.heap.size w w' := by
  unfold polV
  obtain ⟨a, d, k, m, tg⟩ := p
  have HB : Hid (Below w.heap.size w (w.alloc (.cells #[.int .i64 a, .int .i64 d, .int .i64 k, .int .i64 m, tv] 34))) := (Below.refl _ w).alloc (Nat.le_refl _) _
  simp only [Pol.neg] at h
  rcases (by omega : a < 0 ∨ (0 ≤ a ∧ d < 0) ∨ (0 ≤ a ∧ 0 ≤ d ∧ k < 0) ∨ (0 ≤ a ∧ 0 ≤ d ∧ 0 ≤ k ∧ m < 0)) with h1 | ⟨h1, h2⟩ | ⟨h1, h2, h3⟩ | ⟨h1, h2, h3, h4⟩
  all_goals clear h
  all_goals go_enter Try.func10, Try.ntmps10
  all_goals go_wp2
  all_goals go_ret
  all_goals exact ⟨rfl, HB.out⟩
set_option maxRecDepth 100000 in
set_option maxHeartbeats 2000000 in
theorem rcheck_times (p : Pol) (tv v : Value) (l : List Sn) (w : World) (h : ¬ p.neg) (hV : SV w w.heap.size v l) (hl : l.length ≤ 1000000) :
    Calls Try.prog 10 #[polV p tv, v] w fun e w' => e = .returned (.int .i64 (tmE l)) ∧ Below w.heap.size w w' := by
  unfold polV
  obtain ⟨a, d, k, m, tg⟩ := p
  simp only [Pol.neg] at h
  obtain ⟨h1, h2, h3, h4⟩ : 0 ≤ a ∧ 0 ≤ d ∧ 0 ≤ k ∧ 0 ≤ m := by omega
  clear h
  obtain ⟨W1, hW1⟩ : ∃ W1, W1 = w.alloc (.cells #[.int .i64 a, .int .i64 d, .int .i64 k, .int .i64 m, tv] 34) := ⟨_, rfl⟩
  have HB1 : Hid (Below w.heap.size w W1) := by rw [hW1]; exact (Below.refl _ w).alloc (Nat.le_refl _) _
  have HV : Hid (SV w w.heap.size v l) := hV
  obtain ⟨a0, cap, rfl, _, _⟩ := hV
  obtain ⟨n, hn⟩ : ∃ n, n = l.length := ⟨_, rfl⟩
  have HN : Hid (n = l.length) := hn
  rw [← hn] at hl HV
  rw [← hn]
  clear hn
  have hzs := zeroSn
  go_enter Try.func10, Try.ntmps10
  go_wp2
  rw [← hW1]
  clear hW1
  go_loopw [27] (fun i wr => ∃ (j : Nat) (t : Int), j ≤ n ∧ i = .int .i64 (j : Int) ∧ Hid ((j = 0 ∧ t = 0) ∨ (0 < j ∧ 0 ≤ t ∧ ∃ y, l[j - 1]? = some y ∧ y.t = t)) ∧ Hid (tmB t (l.drop j) = tmB 0 l) ∧ Below w.heap.size w wr) (fun i _ => n - (intOf i).toNat)
  case atStart => exact ⟨0, 0, Nat.zero_le _, rfl, .inl ⟨rfl, rfl⟩, rfl, HB1.out⟩
  case round =>
    obtain ⟨j, t, hj, rfl, HP, HT, hb⟩ := hrel
    have HB : Hid (Below w.heap.size w wr) := hb
    clear hb HB1
    by_cases hlt : j < n
    · obtain ⟨x, hx⟩ : ∃ x, l[j]? = some x := ⟨_, List.getElem?_eq_getElem (by rw [← HN.out]; exact hlt)⟩
      have hlti : (j : Int) < (n : Int) := by omega
      obtain ⟨g, o, rfl, hgB, hg, -, hcap, c0, c1, c2⟩ := (HV.out.below HB.out).at hx
      have HD : Hid (l.drop j = x :: l.drop (j + 1)) := by
        unfold Hid
        rw [List.drop_eq_getElem_cons (by rw [← HN.out]; exact hlt)]
        congr 1
        rw [List.getElem?_eq_getElem (by rw [← HN.out]; exact hlt)] at hx
        injection hx
      obtain ⟨W2, hW2⟩ : ∃ W2, W2 = wr.alloc (.cells #[.string (mkB x.i), .int .i64 x.t, .string (mkB x.g)] 39) := ⟨_, rfl⟩
      have hb2 : Below wr.heap.size wr W2 := by rw [hW2]; exact (Below.refl _ _).alloc (Nat.le_refl _) _
      have hn2 : W2.heap[wr.heap.size]? = some (.cells #[.string (mkB x.i), .int .i64 x.t, .string (mkB x.g)] 39 (0, 0)) := by rw [hW2]; exact heap_alloc_new wr _
      have e1 : W2.cell? ⟨wr.heap.size, 1, none⟩ = some (.int .i64 x.t) := by unfold World.cell?; rw [hn2]; rfl
      have HB2 : Hid (Below w.heap.size w W2) := HB.out.trans (hb2.mono HB.out.size)
      have HE : Hid (tmB 0 l = (decide (t ≤ x.t ∧ x.t ≤ 253402300799) && tmB x.t (l.drop (j + 1)))) := by unfold Hid; rw [← HT.out, HD.out, tmB]
      have HXP : Hid (0 < j + 1 ∧ (0 ≤ x.t → 0 < j + 1 ∧ 0 ≤ x.t ∧ ∃ y, l[j + 1 - 1]? = some y ∧ y.t = x.t)) := ⟨Nat.succ_pos j, fun h => ⟨Nat.succ_pos j, h, x, by rw [Nat.add_sub_cancel]; exact hx, rfl⟩⟩
      have HW2 : Hid (wr.alloc (.cells #[.string (mkB x.i), .int .i64 x.t, .string (mkB x.g)] 39) = W2) := hW2.symm
      clear hb2 hn2 hW2 hx HT
      go_upto_region 6 with fail
      rw [show wr.alloc (.cells #[.string (mkB x.i), .int .i64 x.t, .string (mkB x.g)] 39) = W2 from HW2.out]
      clear c0 c1 c2 HW2
      by_cases hfit : 0 ≤ x.t ∧ x.t ≤ 253402300799
      · have HF : Hid (∀ W, Calls Try.prog 20 #[.int .i64 x.t] W fun e w' => e = .returned (.bool true) ∧ w' = W) := fun W => by
          have := fit_yes x.t.toNat W (by omega)
          rwa [show ((x.t.toNat : Nat) : Int) = x.t by omega] at this
        have HP2 := HXP.out.2 hfit.1
        have HP3 : Hid ((j + 1 = 0 ∧ x.t = 0) ∨ (0 < j + 1 ∧ 0 ≤ x.t ∧ ∃ y, l[j + 1 - 1]? = some y ∧ y.t = x.t)) := .inr HP2
        have HFT : Hid (0 ≤ x.t ∧ x.t ≤ 253402300799) := hfit
        clear HP2 hfit HXP
        rcases HP.out with ⟨h0, h5⟩ | ⟨h0, h5, y, hy, hyt⟩
        · subst h0 h5
          have HE2 : Hid (tmB x.t (l.drop (0 + 1)) = tmB 0 l) := by unfold Hid; rw [HE.out, decide_eq_true HFT.out, Bool.true_and]
          go_quiet ((go_at_call 20; exact Calls.quiet_of_same (HF.out _)))
          go_wp2
          go_roundw
          case rel => exact ⟨0 + 1, x.t, by omega, by go_num, HP3.out, HE2.out, bdrewN HB2.out _⟩
          case measure => simp [intOf]; omega
        · obtain ⟨g2, o2, he, hgB2, hg2, -, hcap2, s0, s1, s2⟩ := (HV.out.below HB2.out).at hy
          cases he
          have hwj : IntKind.i64.wrap ((j : Int) - 1) = ((j - 1 : Nat) : Int) := by rw [IntKind.wrap_i64]; omega
          have hj0 : (0 : Int) < (j : Int) := by omega
          have hj1 : ((j - 1 : Nat) : Int) < (n : Int) := by omega
          have hj2 : j - 1 < n := by omega
          rw [hyt] at s1
          clear hy s0 s2 hyt
          generalize x.t = xt at *
          generalize j - 1 = jj at *
          by_cases htx : xt < t
          · have HE2 : Hid (tmB 0 l = false) := by unfold Hid; rw [HE.out, decide_eq_false (fun h => by omega), Bool.false_and]
            go_quiet ((go_at_call 20; exact Calls.quiet_of_same (HF.out _)))
            go_wp2
            go_ret
            exact ⟨by rw [tmE_no HE2.out]; rfl, bdrewN HB2.out _⟩
          · have HE2 : Hid (tmB xt (l.drop (j + 1)) = tmB 0 l) := by unfold Hid; rw [HE.out, decide_eq_true ⟨by omega, HFT.out.2⟩, Bool.true_and]
            have hdx : decide (xt < t) = false := decide_eq_false htx
            go_quiet ((go_at_call 20; exact Calls.quiet_of_same (HF.out _)))
            go_wp2
            go_roundw
            case rel => exact ⟨j + 1, xt, by omega, by go_num, HP3.out, HE2.out, bdrewN HB2.out _⟩
            case measure => simp [intOf]; omega
      · have HF : Hid (∀ W, Calls Try.prog 20 #[.int .i64 x.t] W fun e w' => e = .returned (.bool false) ∧ w' = W) := fun W => fit_no x.t W hfit
        have ht0 : 0 ≤ t := by rcases HP.out with ⟨_, h5⟩ | ⟨_, h5, _⟩ <;> omega
        have HE2 : Hid (tmB 0 l = false) := by unfold Hid; rw [HE.out, decide_eq_false (fun h => hfit ⟨by omega, h.2⟩), Bool.false_and]
        clear hfit
        go_quiet ((go_at_call 20; exact Calls.quiet_of_same (HF.out _)))
        go_wp2
        go_ret
        exact ⟨by rw [tmE_no HE2.out]; rfl, bdrewN HB2.out _⟩
    · have hlti : ¬ (j : Int) < (n : Int) := by omega
      have HE2 : Hid (tmB 0 l = true) := by unfold Hid; rw [← HT.out, List.drop_eq_nil_of_le (by rw [← HN.out]; omega)]; rfl
      go_wp2
      go_ret
      exact ⟨by rw [tmE_yes HE2.out]; rfl, HB.out⟩
theorem rcheck_any (p : Pol) (tv v : Value) (l : List Sn) (w : World) (hV : SV w w.heap.size v l) (hl : l.length ≤ 1000000) :
    Calls Try.prog 10 #[polV p tv, v] w fun e w' => e = .returned (.int .i64 (errR p l)) ∧ Below w.heap.size w w' := by
  unfold errR
  by_cases h : p.neg
  · rw [if_pos h]; exact rcheck_neg p tv v w h
  · rw [if_neg h]; exact rcheck_times p tv v l w h hV hl
end Go.Proofs.Ytkfaoldpcgokiaa
