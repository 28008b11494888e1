/- ManifestUnlike: the walk. -/
import Derived.Test.YtecpapifkbfblaaDoorManU
import Derived.Test.YtecpapifkbfblaaDoorManJ
import Derived.Test.YtecpapifkbfblaaDoorManK
import Derived.Deep.QuietTactic
import Derived.BigQuiet
namespace Go.Proofs.YtecpapifkbfblaaDoor
open Go.RowKit
set_option linter.unusedVariables false
set_option linter.unusedSimpArgs false

theorem fewM_fit {m : Mf} (h : m.fit) : (fewM m).fit :=
  ⟨h.t, h.g, h.p, h.s, by show (m.ch.take 60).length ≤ _; have := h.n; rw [List.length_take]; omega, fun x hx => h.c x (List.mem_of_mem_take hx)⟩
theorem mk_eqb (x y : List UInt8) : ((mkB x).toList == (mkB y).toList) = decide (x = y) := by
  have h : ∀ l : List UInt8, (mkB l).toList = l := fun l => by rw [ByteArray.toList_eq]; rfl
  rw [h, h]
  by_cases e : x = y
  · subst e; simp
  · rw [decide_eq_false e, beq_eq_false_iff_ne]; exact e
/-- Alike but for the chunks. -/
def Alk (A B : Mf) : Prop := A.t = B.t ∧ A.g = B.g ∧ A.p = B.p ∧ A.s = B.s ∧ A.ch.length = B.ch.length
theorem Alk.eq {A B : Mf} (h : Alk A B) (hc : A.ch = B.ch) : A = B := by
  obtain ⟨t, g, p, s, c⟩ := A
  obtain ⟨t', g', p', s', c'⟩ := B
  obtain ⟨h1, h2, h3, h4, _⟩ := h
  simp only at h1 h2 h3 h4 hc
  subst h1 h2 h3 h4 hc; rfl
theorem Alk.refl (A : Mf) : Alk A A := ⟨rfl, rfl, rfl, rfl, rfl⟩
theorem take_same {l m : List (List UInt8)} {k : Nat} (hl : l.length = m.length) (hk : k < l.length) : l.take (k + 1) = m.take (k + 1) ↔ l.take k = m.take k ∧ l.getD k [] = m.getD k [] := by
  have h1 : l.take (k + 1) = l.take k ++ [l.getD k []] := by
    rw [List.take_add_one, List.getElem?_eq_getElem hk, List.getD_eq_getElem?_getD, List.getElem?_eq_getElem hk]; rfl
  have h2 : m.take (k + 1) = m.take k ++ [m.getD k []] := by
    rw [List.take_add_one, List.getElem?_eq_getElem (by omega), List.getD_eq_getElem?_getD, List.getElem?_eq_getElem (by omega)]; rfl
  rw [h1, h2]
  constructor
  · intro h
    have := List.append_inj' h rfl
    exact ⟨this.1, List.cons.inj this.2 |>.1⟩
  · rintro ⟨h, h'⟩; rw [h, h']
/-- Two manifests that are in form have the same bytes just where they are the same. -/
theorem enc_iff {A B : Mf} (ha : A.form = true) (hb : B.form = true) : encM A = encM B ↔ A = B := ⟨fun h => encM_inj (form_good ha) (form_good hb) h, fun h => by rw [h]⟩
set_option maxRecDepth 100000 in
set_option maxHeartbeats 8000000 in
theorem unlike_x (a b : Mf) (va vb' : Value) (w : World) (ha : TX w va a.ch) (hna : ∀ n c, va = .slice none n c → c = 0) (hfa : a.fit) (hb : TX w vb' b.ch) (hnb : ∀ n c, vb' = .slice none n c → c = 0) (hfb : b.fit) (hL : Lay11 w) :
    Calls Tryd.prog 4 #[mfV a va, mfV b vb'] w fun e w' => e = .returned (.bool true) ∧ Below w.heap.size w w' := by
  have HS : Hid (TB2 w _ w.heap.size (w.heap.size + 1) _ _) := TB2.start w #[.int .i64 a.t, .string (mkB a.g), .string (mkB a.p), .int .i64 a.s, va] #[.int .i64 b.t, .string (mkB b.g), .string (mkB b.p), .int .i64 b.s, vb']
  have HFA : Hid (∀ W, Below w.heap.size w W → Calls Tryd.prog 11 #[mfV a va] W fun e w' => ∃ v', e = .returned (mfV (fewM a) v') ∧ TX w' v' (fewM a).ch ∧ (∀ g o n c, v' = .slice (some ⟨g, o, none⟩) n c → W.heap.size ≤ g) ∧ Below W.heap.size W w') := fun W hW => few19_any a _ W (ha.below hW) hna hfa.n
  have HFB : Hid (∀ W, Below w.heap.size w W → Calls Tryd.prog 11 #[mfV b vb'] W fun e w' => ∃ v', e = .returned (mfV (fewM b) v') ∧ TX w' v' (fewM b).ch ∧ (∀ g o n c, v' = .slice (some ⟨g, o, none⟩) n c → W.heap.size ≤ g) ∧ Below W.heap.size W w') := fun W hW => few19_any b _ W (hb.below hW) hnb hfb.n
  have HLY : Hid (∀ W, Below w.heap.size w W → Lay11 W) := fun W hW => hL.below hW
  have HFIA : Hid ((fewM a).fit) := fewM_fit hfa
  have HFIB : Hid ((fewM b).fit) := fewM_fit hfb
  obtain ⟨aa, ac, rfl, -, -⟩ := id ha
  obtain ⟨ba, bc', rfl, -, -⟩ := id hb
  clear ha hna hfa hb hnb hfb hL
  unfold mfV
  go_enter Tryd.func4, Tryd.ntmps4
  go_upto_region 1 with fail
  generalize World.alloc (World.alloc w _) _ = X at *
  refine unl1_any HS HFA HFB (fun _ _ _ _ _ h => h) ?_
  · unfold Hid
    intro s11 s12 s13 s14 v1 v2 W hT1 hT2 hTB
    clear HFA HFB HS
    have hn60 : (fewM a).ch.length ≤ 60 := by show (a.ch.take 60).length ≤ 60; rw [List.length_take]; omega
    have hm60 : (fewM b).ch.length ≤ 60 := by show (b.ch.take 60).length ≤ 60; rw [List.length_take]; omega
    generalize fewM a = A at *
    generalize fewM b = B at *
    obtain ⟨x1, y1, hv1, -, -⟩ := id hT1
    subst hv1
    obtain ⟨x2, y2, hv2, -, -⟩ := id hT2
    subst hv2
    have HT1 : Hid (TX W (.slice x1 A.ch.length y1) A.ch) := hT1
    have HT2 : Hid (TX W (.slice x2 B.ch.length y2) B.ch) := hT2
    have HTB : Hid (TB2 w W w.heap.size (w.heap.size + 1) _ _) := hTB
    clear hT1 hT2 hTB
    have HEA : Hid (∃ (SA : ByteArray) (eA : Int), (∀ W', Below W.heap.size W W' → Calls Tryd.prog 12 #[.agg #[.int .i64 A.t, .string (mkB A.g), .string (mkB A.p), .int .i64 A.s, .slice x1 A.ch.length y1]] W' fun e w' => e = .returned (.tuple #[.string SA, .int .i64 eA]) ∧ Below W'.heap.size W' w') ∧ ((eA = 0 ∧ A.form = true ∧ SA = mkB (encM A)) ∨ (eA = 4 ∧ SA = ⟨#[]⟩))) := by
      cases hf : A.form with
      | true => exact ⟨_, 0, fun W' hb => encode_good A _ W' HFIA.out (HT1.out.below hb) (HLY.out _ (HTB.out.bel.trans (hb.mono HTB.out.bel.size))) hf, .inl ⟨rfl, rfl, rfl⟩⟩
      | false => exact ⟨_, 4, fun W' hb => encode_bad A _ W' HFIA.out (HT1.out.below hb) (HLY.out _ (HTB.out.bel.trans (hb.mono HTB.out.bel.size))) hf, .inr ⟨rfl, rfl⟩⟩
    have HEB : Hid (∃ (SB : ByteArray) (eB : Int), (∀ W', Below W.heap.size W W' → Calls Tryd.prog 12 #[.agg #[.int .i64 B.t, .string (mkB B.g), .string (mkB B.p), .int .i64 B.s, .slice x2 B.ch.length y2]] W' fun e w' => e = .returned (.tuple #[.string SB, .int .i64 eB]) ∧ Below W'.heap.size W' w') ∧ ((eB = 0 ∧ B.form = true ∧ SB = mkB (encM B)) ∨ (eB = 4 ∧ SB = ⟨#[]⟩))) := by
      cases hf : B.form with
      | true => exact ⟨_, 0, fun W' hb => encode_good B _ W' HFIB.out (HT2.out.below hb) (HLY.out _ (HTB.out.bel.trans (hb.mono HTB.out.bel.size))) hf, .inl ⟨rfl, rfl, rfl⟩⟩
      | false => exact ⟨_, 4, fun W' hb => encode_bad B _ W' HFIB.out (HT2.out.below hb) (HLY.out _ (HTB.out.bel.trans (hb.mono HTB.out.bel.size))) hf, .inr ⟨rfl, rfl⟩⟩
    obtain ⟨SA, eA, hcA, hA⟩ := HEA.out
    obtain ⟨SB, eB, hcB, hB⟩ := HEB.out
    have HCA : Hid (∀ W', _ → Calls _ _ _ W' _) := hcA
    have HCB : Hid (∀ W', _ → Calls _ _ _ W' _) := hcB
    have HA : Hid (_ ∨ _) := hA
    have HB : Hid (_ ∨ _) := hB
    clear hcA hcB hA hB HEA HEB HFIA HFIB
    obtain ⟨⟨a0, a1, a2, a3, a4⟩, -⟩ := five_cell HTB.out.h1
    go_wp2_with fail
    refine (HCA.out W (Below.refl _ W)).mono ?_
    rintro e W1 ⟨rfl, hb1⟩
    clear a0 a1 a2 a3 a4
    have HB1 : Hid (Below W.heap.size W W1) := hb1
    obtain ⟨⟨a0, a1, a2, a3, a4⟩, -⟩ := five_cell (HTB.out.below hb1).h2
    clear hb1
    go_wp2_with fail
    refine (HCB.out W1 HB1.out).mono ?_
    rintro e W2 ⟨rfl, hb2⟩
    clear a0 a1 a2 a3 a4
    have HB2 : Hid (Below W.heap.size W W2) := HB1.out.trans (hb2.mono HB1.out.size)
    have HBW : Hid (∀ n, Below w.heap.size w (W2.drewN n)) := fun n => by
      have h := HTB.out.bel.trans (HB2.out.mono HTB.out.bel.size)
      exact ⟨h.os, h.tape, h.output, h.size, h.block⟩
    have HTB2 : Hid (TB2 w W2 w.heap.size (w.heap.size + 1) _ _) := HTB.out.below HB2.out
    have HT1' : Hid (TX W2 (.slice x1 A.ch.length y1) A.ch) := HT1.out.below HB2.out
    have HT2' : Hid (TX W2 (.slice x2 B.ch.length y2) B.ch) := HT2.out.below HB2.out
    have HAW : Hid (∀ n, Calls Tryd.prog 13 #[] (W2.drewN n) fun e w' => e = .returned (.bool true) ∧ Below (W2.drewN n).heap.size (W2.drewN n) w') := fun n => awake19_any _ (HLY.out _ (HBW.out n))
    clear hb2 HB1 HCA HCB HTB HT1 HT2 HLY
    rcases HA.out with ⟨rfl, hfa, hsa⟩ | ⟨rfl, rfl⟩
    · rcases HB.out with ⟨rfl, hfb, hsb⟩ | ⟨rfl, rfl⟩
      · have HEQ : Hid ((SA.toList == SB.toList) = true ↔ A = B) := by
          unfold Hid
          rw [hsa, hsb, mk_eqb, decide_eq_true_iff]
          exact enc_iff hfa hfb
        clear hfa hfb hsa hsb HA HB
        obtain ⟨⟨a0, a1, a2, a3, a4⟩, -⟩ := five_cell HTB2.out.h1
        obtain ⟨⟨b0, b1, b2, b3, b4⟩, -⟩ := five_cell HTB2.out.h2
        go_upto_region 6 with fail
        go_cut [9] (fun v9 wx => ∃ S0 : Bool, v9 = .bool S0 ∧ wx = W2 ∧ Hid (S0 = true ↔ Alk A B))
        case first =>
          by_cases h1 : A.t = B.t
          · have k1 : (A.t == B.t) = true := by simpa using h1
            have H1 : Hid (A.t = B.t) := h1
            clear h1
            by_cases h2 : A.g = B.g
            · have k2 : ((mkB A.g).toList == (mkB B.g).toList) = true := by rw [mk_eqb]; simpa using h2
              have H2 : Hid (A.g = B.g) := h2
              clear h2
              by_cases h3 : A.p = B.p
              · have k3 : ((mkB A.p).toList == (mkB B.p).toList) = true := by rw [mk_eqb]; simpa using h3
                have H3 : Hid (A.p = B.p) := h3
                clear h3
                by_cases h4 : A.s = B.s
                · have k4 : (A.s == B.s) = true := by simpa using h4
                  have H4 : Hid (A.s = B.s) := h4
                  clear h4
                  by_cases h5 : A.ch.length = B.ch.length
                  · have k5 : ((A.ch.length : Int) == (B.ch.length : Int)) = true := by simp; omega
                    have H5 : Hid (A.ch.length = B.ch.length) := h5
                    clear h5
                    go_wp2
                    go_meet
                    exact ⟨true, rfl, rfl, ⟨fun _ => ⟨H1.out, H2.out, H3.out, H4.out, H5.out⟩, fun _ => rfl⟩⟩
                  · have k5 : ((A.ch.length : Int) == (B.ch.length : Int)) = false := by simp; omega
                    have H5 : Hid (¬ A.ch.length = B.ch.length) := h5
                    clear h5
                    go_wp2
                    go_meet
                    exact ⟨false, rfl, rfl, ⟨(fun h => by cases h), fun h => absurd h.2.2.2.2 H5.out⟩⟩
                · have k4 : (A.s == B.s) = false := by simpa using h4
                  go_wp2
                  go_meet
                  exact ⟨false, rfl, rfl, ⟨(fun h => by cases h), fun h => absurd h.2.2.2.1 h4⟩⟩
              · have k3 : ((mkB A.p).toList == (mkB B.p).toList) = false := by rw [mk_eqb]; simpa using h3
                go_wp2
                go_meet
                exact ⟨false, rfl, rfl, ⟨(fun h => by cases h), fun h => absurd h.2.2.1 h3⟩⟩
            · have k2 : ((mkB A.g).toList == (mkB B.g).toList) = false := by rw [mk_eqb]; simpa using h2
              go_wp2
              go_meet
              exact ⟨false, rfl, rfl, ⟨(fun h => by cases h), fun h => absurd h.2.1 h2⟩⟩
          · have k1 : (A.t == B.t) = false := by simpa using h1
            go_wp2
            go_meet
            exact ⟨false, rfl, rfl, ⟨(fun h => by cases h), fun h => absurd h.1 h1⟩⟩
        case rest =>
          obtain ⟨S0, rfl, rfl, HE0⟩ := hcut
          go_wp2
          go_loopw [9, 10] (fun v9 i wr => ∃ (S : Bool) (k nd : Nat), v9 = .bool S ∧ i = .int .i64 (k : Int) ∧ k ≤ A.ch.length ∧ wr = wc.drewN nd ∧ (S = true ↔ (Alk A B ∧ A.ch.take k = B.ch.take k))) (fun _ i _ => A.ch.length + 1 - (intOf i).toNat)
          case atStart => exact ⟨S0, 0, 0, rfl, rfl, Nat.zero_le _, rfl, by rw [HE0.out]; simp⟩
          case round =>
            obtain ⟨S, k, nd, rfl, rfl, hk, rfl, hS⟩ := hrel
            have HS : Hid (S = true ↔ _) := hS
            clear hS HE0
            cases S with
            | false =>
              have HF : Hid ((SA.toList == SB.toList) = false) := by
                unfold Hid
                rw [← Bool.not_eq_true, HEQ.out]
                intro e
                have := HS.out.2 ⟨by rw [e]; exact Alk.refl B, by rw [e]⟩
                cases this
              have hF := HF.out
              go_wp2_with fail
              refine (HAW.out nd).mono ?_
              rintro e W4 ⟨rfl, hb4⟩
              have HB4 : Hid (Below w.heap.size w W4) := (HBW.out nd).trans (hb4.mono (HBW.out nd).size)
              clear hb4
              go_wp2
              go_ret
              exact ⟨by first | rfl | simp, HB4.out⟩
            | true =>
              by_cases hlt : k < A.ch.length
              · have hal : Alk A B ∧ A.ch.take k = B.ch.take k := HS.out.1 rfl
                have HAL : Hid (Alk A B ∧ A.ch.take k = B.ch.take k) := hal
                have hlen : A.ch.length = B.ch.length := hal.1.2.2.2.2
                obtain ⟨p1, q1, hv1, -, hf1⟩ := HT1'.out
                obtain ⟨p2, q2, hv2, -, hf2⟩ := HT2'.out
                simp only [Value.slice.injEq, true_and] at hv1 hv2
                obtain ⟨rfl, rfl⟩ := hv1
                obtain ⟨rfl, rfl⟩ := hv2
                obtain ⟨g1, o1, rfl, -, hc1⟩ := hf1 (fun e => by rw [e] at hlt; simp at hlt)
                obtain ⟨g2, o2, rfl, -, hc2⟩ := hf2 (fun e => by rw [e] at hlen; simp at hlen; rw [hlen] at hlt; simp at hlt)
                have c1 := hc1 k hlt
                have c2 := hc2 k (by omega)
                obtain ⟨u1, hu1⟩ : ∃ u, u = A.ch.getD k [] := ⟨_, rfl⟩
                obtain ⟨u2, hu2⟩ : ∃ u, u = B.ch.getD k [] := ⟨_, rfl⟩
                rw [← hu1] at c1
                rw [← hu2] at c2
                have HU : Hid (u1 = A.ch.getD k [] ∧ u2 = B.ch.getD k []) := ⟨hu1, hu2⟩
                have hki : (k : Int) < (A.ch.length : Int) := by omega
                have hkj : (k : Int) < (B.ch.length : Int) := by omega
                have hki0 : (0 : Int) ≤ (k : Int) := by omega
                obtain ⟨S', hS'⟩ : ∃ S' : Bool, ((mkB u1).toList == (mkB u2).toList) = S' := ⟨_, rfl⟩
                have HS' : Hid (S' = true ↔ u1 = u2) := by
                  unfold Hid
                  rw [← hS', mk_eqb]; simp
                have HLN : Hid (A.ch.length = B.ch.length) := hlen
                clear hal hlen hf1 hf2 hc1 hc2 hu1 hu2
                go_wp2
                go_quiet (fail)
                go_wp2
                go_roundw
                case rel =>
                  refine ⟨S', k + 1, _, rfl, by go_num, by omega, rfl, ?_⟩
                  rw [take_same HLN.out hlt, ← HU.out.1, ← HU.out.2, HS'.out]
                  exact ⟨fun h => ⟨HAL.out.1, HAL.out.2, h⟩, fun h => h.2.2⟩
                case measure => simp [intOf]; omega
              · have hkn : k = A.ch.length := by omega
                have HF : Hid ((SA.toList == SB.toList) = true) := by
                  unfold Hid
                  rw [HEQ.out]
                  obtain ⟨h1, h2⟩ := HS.out.1 rfl
                  rw [hkn, List.take_length, h1.2.2.2.2, List.take_length] at h2
                  exact h1.eq h2
                have hF := HF.out
                have hki : ¬ (k : Int) < (A.ch.length : Int) := by omega
                clear hkn
                go_wp2_with fail
                refine (HAW.out nd).mono ?_
                rintro e W4 ⟨rfl, hb4⟩
                have HB4 : Hid (Below w.heap.size w W4) := (HBW.out nd).trans (hb4.mono (HBW.out nd).size)
                clear hb4
                go_wp2
                go_ret
                exact ⟨by first | rfl | simp, HB4.out⟩
      · clear hfa hsa HA HB
        go_wp2_with fail
        refine (HAW.out 0).mono ?_
        rintro e W4 ⟨rfl, hb4⟩
        have HB4 : Hid (Below w.heap.size w W4) := (HBW.out 0).trans (hb4.mono (HBW.out 0).size)
        clear hb4
        go_wp2
        go_ret
        exact ⟨by first | rfl | simp, HB4.out⟩
    · rcases HB.out with ⟨rfl, hfb, hsb⟩ | ⟨rfl, rfl⟩
      · clear hfb hsb HA HB
        go_wp2_with fail
        refine (HAW.out 0).mono ?_
        rintro e W4 ⟨rfl, hb4⟩
        have HB4 : Hid (Below w.heap.size w W4) := (HBW.out 0).trans (hb4.mono (HBW.out 0).size)
        clear hb4
        go_wp2
        go_ret
        exact ⟨by first | rfl | simp, HB4.out⟩
      · clear HA HB
        go_wp2_with fail
        refine (HAW.out 0).mono ?_
        rintro e W4 ⟨rfl, hb4⟩
        have HB4 : Hid (Below w.heap.size w W4) := (HBW.out 0).trans (hb4.mono (HBW.out 0).size)
        clear hb4
        go_wp2
        go_ret
        exact ⟨by first | rfl | simp, HB4.out⟩
theorem lawManifestUnlike_walk (v0 : Value) (a : Mf) (v1 : Value) (b : Mf) (w : World) (h0 : IsMf w v0 a) (h1 : IsMf w v1 b) (hL : Lay11 w) :
    Calls Tryd.prog 4 #[v0, v1] w fun e w' => e = .returned (.bool true) ∧ Below w.heap.size w w' := by
  obtain ⟨u, rfl, hT, hn, hf⟩ := h0
  obtain ⟨u', rfl, hT', hn', hf'⟩ := h1
  exact unlike_x a b u u' w hT hn hf hT' hn' hf' hL
end Go.Proofs.YtecpapifkbfblaaDoor
