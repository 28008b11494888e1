import Derived.Test.YtpfjcdfhlcnlcaaIdxY
import Derived.BigQuiet
import Derived.Deep.QuietTactic
import Derived.Deep.RegionHeld3
import Derived.Deep.DeepCutAuto
namespace Go.Proofs.Ytpfjcdfhlcnlcaa
open Go.RowKit Go.Maps
set_option linter.unusedVariables false
set_option linter.unusedSimpArgs false

set_option maxRecDepth 100000 in
set_option maxHeartbeats 4000000 in
theorem read_any (l : List UInt8) (w : World) (hl : l.length ≤ 9000) :
    Calls Try.prog 16 #[.string (mkB l)] w fun e w' => RdP l e w' ∧ Below w.heap.size w w' := by
  have hzi := zeroRI
  have hzp := zeroRP
  have hzc := zeroCu
  obtain ⟨i0, hi, hz0, hz1, hz2⟩ := info_parts Try.infoTx
  obtain ⟨R, hR⟩ : ∃ R, R = w.heap.size := ⟨_, rfl⟩
  obtain ⟨W1, hW1⟩ : ∃ W1, W1 = ((w.alloc (.cells #[.slice none 0 0, .slice none 0 0] 31)).alloc (.cells #[.string (mkB l), .bool false] 86)).alloc (.cells #[.slice none 0 0, .slice none 0 0] 31) := ⟨_, rfl⟩
  have HS1 : Hid (RdS w W1 R ⟨l, false⟩ (.slice none 0 0) [] (.slice none 0 0) []) := by unfold Hid; rw [hW1, hR]; exact RdS.new l w
  have HRR : Hid (R = w.heap.size) := hR
  go_enter Try.func16, Try.ntmps16
  go_upto_region 3 with fail
  rw [← hW1, ← hR]
  clear hW1 hR
  rw [show R + 1 + 1 = R + 2 from rfl]
  go_wp2_with fail
  refine (cnum_any (R + 1) ⟨l, false⟩ W1 HS1.out.c (by show l.length ≤ _; omega)).mono ?_
  rw [cNum_x ⟨l, false⟩ rfl]
  rintro e w2 ⟨rfl, hR2, hg2⟩
  have hS2 := HS1.out.read hR2 hg2
  obtain ⟨n0, hn0⟩ : ∃ n0, n0 = (xNum ⟨l, false⟩).1 := ⟨_, rfl⟩
  obtain ⟨s0, hs0⟩ : ∃ s0, s0 = (xNum ⟨l, false⟩).2 := ⟨_, rfl⟩
  have hn0b : n0 < 4294967296 := by rw [hn0]; exact xNum_lt _
  have hs0l : s0.rest.length ≤ l.length := by rw [hs0]; exact (xNum_le ⟨l, false⟩).1
  obtain ⟨R1, hR1⟩ : ∃ R1, R1 = xPk n0 s0 [] := ⟨_, rfl⟩
  have HR1 : Hid (R1 = xPk n0 s0 []) := hR1
  have HRD : Hid (RRead l = match rCh (xNum R1.2).1 (xNum R1.2).2 R1.1 [] with | some (P, s) => if s.bad = false ∧ s.rest = [] ∧ R1.1.Nodup then some (R1.1, P) else none | none => none) := by unfold Hid RRead; rw [hR1, hn0, hs0]; rfl
  rw [← hs0] at hS2
  rw [← hn0]
  have HS2 : Hid (RdS w w2 R s0 (.slice none 0 0) [] (.slice none 0 0) []) := hS2
  have HBW : Hid (∀ W, Below R w W → Below w.heap.size w W) := fun W h => by rw [← HRR.out]; exact h
  clear hS2 hR2 hg2 HS1 hn0 hs0 hR1
  go_wp2
  go_loopw [7] (fun i wr => ∃ (k : Nat) (s : Sx) (ns : List (List UInt8)) (ua : Option Addr) (uc : Nat), k ≤ n0 ∧ i = .int .i64 (k : Int) ∧ xPk (n0 - k) s ns = R1 ∧ RdS w wr R s (.slice ua ns.length uc) ns (.slice none 0 0) [] ∧ ns.length + s.rest.length ≤ l.length + 1 ∧ (s.bad = false → ns.length + s.rest.length ≤ l.length)) (fun i _ => n0 - (intOf i).toNat)
  case atStart => exact ⟨0, s0, [], none, 0, Nat.zero_le _, rfl, HR1.out.symm, HS2.out, by simp; omega, fun _ => by simp; omega⟩
  case round =>
    obtain ⟨k, s, ns, ua, uc, hk, rfl, hxp, hS, hnl, hnb⟩ := hrel
    have HS : Hid (RdS w wr R s (.slice ua ns.length uc) ns (.slice none 0 0) []) := hS
    have HXP : Hid (xPk (n0 - k) s ns = R1) := hxp
    have HNL : Hid (ns.length + s.rest.length ≤ l.length + 1 ∧ (s.bad = false → ns.length + s.rest.length ≤ l.length)) := ⟨hnl, hnb⟩
    have c1 := RC.c1 hS.c
    clear hS hxp hnl hnb HS2 HR1
    by_cases hgo : k < n0 ∧ s.bad = false
    · obtain ⟨h1, h2⟩ := hgo
      have h1i : (k : Int) < (n0 : Int) := by omega
      rw [h2] at c1
      have HXP2 : Hid (xPk (n0 - (k + 1)) (xTxt s).2 (ns ++ [(xTxt s).1]) = R1) := by
        have h9 := HXP.out
        rw [show n0 - k = (n0 - (k + 1)) + 1 by omega, xPk, if_neg (by rw [h2]; simp)] at h9
        exact h9
      have hnb := HNL.out.2 h2
      have htl := xTxt_le s
      have HT0 : Hid (Calls Try.prog 31 #[.pointer (some ⟨R + 1, 0, none⟩)] wr.drew fun e w' => e = .returned (.string (mkB (xTxt s).1)) ∧ RC w' (R + 1) (xTxt s).2 ∧ wr.drew.grownBy w' (some (R + 1))) := by
        have h9 := ctxt_any (R + 1) s wr.drew HS.out.c (by omega)
        rw [cTxt_x s h2] at h9
        exact h9
      have HSD : Hid (RdS w wr.drew R s (.slice ua ns.length uc) ns (.slice none 0 0) []) := HS.out.below ((Below.refl _ _).drew)
      obtain ⟨X, hXe⟩ : ∃ X, X = (xTxt s).1 := ⟨_, rfl⟩
      obtain ⟨s2, hs2⟩ : ∃ s2, s2 = (xTxt s).2 := ⟨_, rfl⟩
      unfold Hid at HT0
      rw [← hXe, ← hs2] at HXP2 HT0
      have HT : Hid (Calls Try.prog 31 #[.pointer (some ⟨R + 1, 0, none⟩)] wr.drew fun e w' => e = .returned (.string (mkB X)) ∧ RC w' (R + 1) s2 ∧ wr.drew.grownBy w' (some (R + 1))) := HT0
      have HNL2 : Hid ((ns ++ [X]).length + s2.rest.length ≤ l.length + 1 ∧ (s2.bad = false → (ns ++ [X]).length + s2.rest.length ≤ l.length)) := by
        rw [hs2]
        refine ⟨by simp; omega, fun h9 => by have := htl.2.2 h9; simp; omega⟩
      have c20 : wr.cell? ⟨R + 2, 0, none⟩ = some (.slice ua ns.length uc) := (cell_of_row _ _ _ _ _ _ HS.out.x).trans rfl
      have hRl : R + 2 < wr.heap.size := HS.out.lt
      have hnsl : ns.length ≤ 9000 := by omega
      clear HT0 hXe hs2 htl hnb HS
      go_upto_region 7 with fail
      have HAP : Hid (∀ (w3 : World), RdS w w3 R s2 (.slice ua ns.length uc) ns (.slice none 0 0) [] → OT (w3.alloc (.cells #[.string (mkB X)] 9)) R (.slice ua ns.length uc) ns ∧ ∀ j u, (tc [X])[j]? = some u → (w3.alloc (.cells #[.string (mkB X)] 9)).cell? ((⟨w3.heap.size, 0, none⟩ : Addr).add j) = some u) := fun w3 h3 => ⟨h3.p.below ((Below.refl _ w3).alloc (Nat.le_refl _) _), fun j u hu => World.ownsRow.cells (OT.made w3 X) (g := w3.heap.size) rfl j u hu⟩
      have HTC : Hid (∀ y ∈ tc [X], y.oneCell' = true) := by intro y hy; simp [tc] at hy; subst hy; rfl
      have HAF : Hid (∀ (w3 w4 : World), RdS w w3 R s2 (.slice ua ns.length uc) ns (.slice none 0 0) [] → (w3.alloc (.cells #[.string (mkB X)] 9)).grownBy w4 (Value.slice ua ns.length uc).ownBlock → w4.heap[R + 2]? = some (.cells #[.slice ua ns.length uc, .slice none 0 0] 31 (0, 0))) := fun w3 w4 h3 hg => by
        have hl3 := h3.lt
        have h9 : (w3.alloc (.cells #[.string (mkB X)] 9)).heap[R + 2]? = _ := (Below.heap_alloc _ _ _ hl3).trans h3.x
        exact (hg.block (R + 2) (by simp; omega) (fun e => row_ne h3.p h3.x (by decide) e.symm)).trans h9
      go_region_law ((first
        | (refine step_append_lies _ (by rfl) _ _ 28 (by rfl) R 9 i0 (.string ⟨#[]⟩) 1 16 Try.underlying28 hi hz0 hz1 hz2 rfl (by decide) (.slice ua ns.length uc) ns.length (tc ns) (by rfl) (HAP.out _ hS3).1 ⟨w3.heap.size, 0, none⟩ 1 1 (tc [X]) (by rfl) rfl (HAP.out _ hS3).2 HTC.out (by decide) (by unfold maxLen; omega) (by omega) (by simp; omega) (w3.heap.size + 1) (by simp) ?_; intro g4 cap4 w4 hown4 hgrow4 hat4 hlt4; have q2 := HAF.out _ _ hS3 hgrow4; have q3 : w4.cell? ⟨R + 2, 0, none⟩ = some (.slice ua ns.length uc) := (cell_of_row _ _ _ _ _ _ q2).trans rfl; have q4 : w4.frozen? ⟨R + 2, 0, none⟩ = false := frozen_of_row _ _ _ _ _ q2)
        | (go_simp; go_wp2_with (go_at_call 31; refine HT.out.mono ?_; rintro e w3 ⟨rfl, hR3, hg3⟩; have hS3 := HSD.out.read hR3 hg3; have c3 : w3.cell? ⟨R + 2, 0, none⟩ = some (.slice ua ns.length uc) := (cell_of_row _ _ _ _ _ _ hS3.x).trans rfl; have hl3 := hS3.lt))))
      all_goals
        have hown5 : OT w4 R (.slice (some ⟨g4, 0, none⟩) (ns.length + 1) cap4) (ns ++ [X]) := by
          unfold OT; rw [tc_append, List.length_append]; exact hown4
        have HS5 : Hid (RdS w (w4.setCell ⟨R + 2, 0, none⟩ (.slice (some ⟨g4, 0, none⟩) (ns.length + 1) cap4)) R s2 (.slice (some ⟨g4, 0, none⟩) (ns.length + 1) cap4) (ns ++ [X]) (.slice none 0 0) []) := hS3.putp hown5 hgrow4
        have HLN : Hid ((ns ++ [X]).length = ns.length + 1) := by unfold Hid; simp
        clear hown4 hown5 hgrow4 hat4 hlt4 q2 q3 q4 hS3 hR3 hg3 c3 hl3 HAP HAF HTC HT HSD
        go_wp2
        go_roundw
        case rel => exact ⟨k + 1, s2, ns ++ [X], _, _, by omega, by go_num, HXP2.out, by rw [HLN.out]; exact HS5.out, HNL2.out.1, HNL2.out.2⟩
        case measure => simp [intOf]; omega
    · have hz9 : (k = n0) ∨ (k < n0 ∧ s.bad = true) := by
        by_cases h : s.bad = false
        · left; rcases Nat.lt_or_ge k n0 with h2 | h2
          · exact absurd ⟨h2, h⟩ hgo
          · omega
        · have h3 : s.bad = true := by cases hb : s.bad with | true => rfl | false => exact absurd hb h
          rcases Nat.lt_or_ge k n0 with h2 | h2
          · exact .inr ⟨h2, h3⟩
          · left; omega
      have hst : R1 = (ns, s) := by rw [← HXP.out]; exact xPk_stop _ s ns (by rcases hz9 with h | h; exact .inl (by omega); exact .inr h.2)
      obtain ⟨n1, s1, hn1⟩ : ∃ n1 s1, cNum s = (n1, s1) := ⟨_, _, rfl⟩
      have hn1b : n1 < 4294967296 := by have := cNum_lt s; rw [hn1] at this; exact this
      have hAg := Agr.num (s := s) (t := s) ⟨rfl, fun _ => rfl⟩
      rw [hn1] at hAg
      have HLOST : Hid (s1.bad = true → RRead l = none) := fun hb => by
        have hxb : (xNum s).2.bad = true := by rw [← hAg.1.1]; exact hb
        have hxn : (xNum s).1 = 0 := by
          unfold xNum at hxb ⊢
          split at hxb
          · rename_i h9; rw [if_pos h9]
          · cases hxb
        rw [HRD.out, hst]
        simp only
        rw [hxn, rCh]
        simp only
        rw [if_neg (by rw [hxb]; simp)]
      have HGOOD : Hid (s1.bad = false → RRead l = match rCh n1 s1 ns [] with | some (P, s) => if s.bad = false ∧ s.rest = [] ∧ ns.Nodup then some (ns, P) else none | none => none) := fun hb => by
        rw [HRD.out, hst]
        simp only
        rw [← hAg.2 hb, ← hAg.1.2 hb]
      have HCN : Hid (cNum s = (n1, s1)) := hn1
      have hs1l : s1.rest.length ≤ s.rest.length := by have := cNum_le s; rw [hn1] at this; exact this
      have hnl := HNL.out.1
      have hs1l2 : s1.rest.length ≤ 9001 := by omega
      have hsl9 : s.rest.length ≤ 9001 := by omega
      have hnsl : ns.length ≤ 9001 := by omega
      clear hgo hst hn1 hAg HXP HNL HRD hs1l hnl
      have HZ9 : Hid ((k = n0) ∨ (k < n0 ∧ s.bad = true)) := hz9
      clear hz9
      go_upto_region 5 with fail
      go_cut [28] (fun t wx => t = .bool false ∧ wx = wr)
      case first =>
        rcases HZ9.out with h9 | ⟨h8, h9⟩
        · subst h9
          go_wp2
          go_meet
          exact ⟨rfl, rfl⟩
        · have h7 : (k : Int) < (n0 : Int) := by omega
          rw [h9] at c1
          go_wp2
          go_meet
          exact ⟨rfl, rfl⟩
      case rest =>
        obtain ⟨rfl, hwc⟩ := hcut
        rw [hwc]
        clear hwc
        go_wp2_with fail
        refine (cnumI_any HCN.out wr HS.out.c (by omega)).mono ?_
        rintro e w3 ⟨rfl, hR3, hg3⟩
        have HS3 : Hid (RdS w w3 R s1 (.slice ua ns.length uc) ns (.slice none 0 0) []) := HS.out.read hR3 hg3
        clear hR3 hg3 HS HCN c1
        go_wp2
        go_loopw [8] (fun i wr => ∃ (k : Nat) (s : Sx) (P : List Pl) (qa : Option Addr) (qc : Nat), k ≤ n1 ∧ i = .int .i64 (k : Int) ∧ k = P.length ∧ RdS w wr R s (.slice ua ns.length uc) ns (.slice qa P.length qc) P ∧ s.rest.length ≤ 9001 ∧ P.length ≤ 9002 ∧ ((s.bad = false ∧ s1.bad = false ∧ rCh (n1 - k) s ns P = rCh n1 s1 ns [] ∧ P.length + s.rest.length ≤ 9001) ∨ (s.bad = true ∧ RRead l = none))) (fun i _ => n1 - (intOf i).toNat)
        case atStart =>
          refine ⟨0, s1, [], none, 0, Nat.zero_le _, rfl, rfl, HS3.out, hs1l2, by simp, ?_⟩
          cases hb : s1.bad with
          | true => exact .inr ⟨rfl, HLOST.out hb⟩
          | false => exact .inl ⟨rfl, rfl, rfl, by simpa using hs1l2⟩
        case round =>
          obtain ⟨k, s, P, qa, qc, hk, rfl, hkP, hS, hsl, hPl, hor⟩ := hrel
          have HS : Hid (RdS w wr R s (.slice ua ns.length uc) ns (.slice qa P.length qc) P) := hS
          have HOR : Hid ((s.bad = false ∧ s1.bad = false ∧ rCh (n1 - k) s ns P = rCh n1 s1 ns [] ∧ P.length + s.rest.length ≤ 9001) ∨ (s.bad = true ∧ RRead l = none)) := hor
          have c1 := RC.c1 hS.c
          clear hS hor HS3
          by_cases hgo : k < n1 ∧ s.bad = false
          · obtain ⟨h1, h2⟩ := hgo
            have h1i : (k : Int) < (n1 : Int) := by omega
            rw [h2] at c1
            obtain ⟨hs1b, hrc, hPs⟩ : s1.bad = false ∧ rCh (n1 - k) s ns P = rCh n1 s1 ns [] ∧ P.length + s.rest.length ≤ 9001 := by
              rcases HOR.out with h | h
              · exact h.2
              · rw [h2] at h; cases h.1
            have HRC : Hid (rCh (n1 - k) s ns P = rCh n1 s1 ns []) := hrc
            have HS1B : Hid (s1.bad = false) := hs1b
            obtain ⟨X, s2, hX2⟩ : ∃ X s2, xTxt s = (X, s2) := ⟨_, _, rfl⟩
            obtain ⟨kk, s3, hk3⟩ : ∃ kk s3, cNum s2 = (kk, s3) := ⟨_, _, rfl⟩
            obtain ⟨m, s4, hm4⟩ : ∃ m s4, cNum s3 = (m, s4) := ⟨_, _, rfl⟩
            obtain ⟨c, s5, hc5⟩ : ∃ c s5, cNum s4 = (c, s5) := ⟨_, _, rfl⟩
            obtain ⟨p, s6, hp6⟩ : ∃ p s6, cNum s5 = (p, s6) := ⟨_, _, rfl⟩
            obtain ⟨z, s7, hz7⟩ : ∃ z s7, cNum s6 = (z, s7) := ⟨_, _, rfl⟩
            obtain ⟨a, s8, ha8⟩ : ∃ a s8, cNum s7 = (a, s8) := ⟨_, _, rfl⟩
            have hEC := entry_c h2 hX2 hk3 hm4 hc5 hp6 hz7 ha8
            have HEC : Hid ((xRest (xHd s).2.2).2.bad = s8.bad ∧ (s8.bad = false → xHd s = (X, kk, s3) ∧ xRest s3 = ((m, c, p, z, a), s8))) := hEC
            have t2 := xTxt_le s
            rw [hX2] at t2
            simp only at t2
            have l3 := cNum_le s2; rw [hk3] at l3; simp only at l3
            have l4 := cNum_le s3; rw [hm4] at l4; simp only at l4
            have l5 := cNum_le s4; rw [hc5] at l5; simp only at l5
            have l6 := cNum_le s5; rw [hp6] at l6; simp only at l6
            have l7 := cNum_le s6; rw [hz7] at l7; simp only at l7
            have l8 := cNum_le s7; rw [ha8] at l8; simp only at l8
            have kb := cNum_lt s2; rw [hk3] at kb; simp only at kb
            have cb := cNum_lt s4; rw [hc5] at cb; simp only at cb
            have H2 : Hid (xTxt s = (X, s2)) := hX2
            have H3 : Hid (cNum s2 = (kk, s3)) := hk3
            have H4 : Hid (cNum s3 = (m, s4)) := hm4
            have H5 : Hid (cNum s4 = (c, s5)) := hc5
            have H6 : Hid (cNum s5 = (p, s6)) := hp6
            have H7 : Hid (cNum s6 = (z, s7)) := hz7
            have H8 : Hid (cNum s7 = (a, s8)) := ha8
            have hcw : IntKind.u32.wrap (c : Int) = (c : Int) := by simp [IntKind.wrap, IntKind.signed, IntKind.bits]; omega
            have hXl : X.length ≤ 9001 := by omega
            have HLR : Hid (s8.bad = false → s8.rest.length + 1 ≤ s.rest.length) := fun hb => by
              have q := hEC.2 hb
              have e1 := xRest_le s3
              rw [q.2] at e1
              have e2 := e1.2 hb
              simp only at e2
              omega
            have lall : s3.rest.length ≤ 9001 ∧ s4.rest.length ≤ 9001 ∧ s5.rest.length ≤ 9001 ∧ s6.rest.length ≤ 9001 ∧ s7.rest.length ≤ 9001 ∧ s8.rest.length ≤ 9001 ∧ s2.rest.length ≤ 9001 := by omega
            obtain ⟨z3, z4, z5, z6, z7, z8, z2⟩ := lall
            clear hX2 hk3 hm4 hc5 hp6 hz7 ha8 hEC hrc hs1b t2 l3 l4 l5 l6 l7 l8 HOR
            obtain ⟨b, hbb⟩ : ∃ b, b = wr.heap.size := ⟨_, rfl⟩
            obtain ⟨W4, hW4⟩ : ∃ W4, W4 = wr.alloc (.cells #[.string ⟨#[]⟩, .string ⟨#[]⟩, .int .i64 0, .int .u32 0, .int .i64 0, .int .i64 0, .int .i64 0] 47) := ⟨_, rfl⟩
            have HB4 : Hid (RdB w W4 R s (.slice ua ns.length uc) ns (.slice qa P.length qc) P b #[.string ⟨#[]⟩, .string ⟨#[]⟩, .int .i64 0, .int .u32 0, .int .i64 0, .int .i64 0, .int .i64 0]) := by unfold Hid; rw [hW4, hbb]; exact RdB.new HS.out _
            go_upto_region 13 with fail
            rw [← hW4, ← hbb]
            clear hW4 hbb
            have HTX : Hid (Calls Try.prog 31 #[.pointer (some ⟨R + 1, 0, none⟩)] W4 fun e w' => e = .returned (.string (mkB X)) ∧ RC w' (R + 1) s2 ∧ W4.grownBy w' (some (R + 1))) := by
              have h9 := ctxt_any (R + 1) s W4 HB4.out.st.c (by omega)
              rw [cTxt_x s h2, H2.out] at h9
              exact h9
            go_wp2_with fail
            refine HTX.out.mono ?_
            rintro e w5 ⟨rfl, hR5, hg5⟩
            have hB5 := HB4.out.read hR5 hg5
            have d1 : w5.cell? ⟨b, 1, none⟩ = some (.string ⟨#[]⟩) := (hB5.at 1).trans rfl
            have fd1 := hB5.fz 1
            have hB5s := hB5.set 1 (.string (mkB X))
            obtain ⟨W5, hW5⟩ : ∃ W5, W5 = w5.setCell ⟨b, 1, none⟩ (.string (mkB X)) := ⟨_, rfl⟩
            rw [← hW5] at hB5s
            have HB5 : Hid (RdB w W5 R s2 (.slice ua ns.length uc) ns (.slice qa P.length qc) P b #[.string ⟨#[]⟩, .string (mkB X), .int .i64 0, .int .u32 0, .int .i64 0, .int .i64 0, .int .i64 0]) := hB5s
            clear hR5 hg5 hB5 hB5s HTX HB4
            go_wp2_with fail
            rw [← hW5]
            clear hW5 d1 fd1
            refine (cnumI_any H3.out W5 HB5.out.st.c (by omega)).mono ?_
            rintro e w6 ⟨rfl, hR6, hg6⟩
            have HB6 : Hid (RdB w w6 R s3 (.slice ua ns.length uc) ns (.slice qa P.length qc) P b #[.string ⟨#[]⟩, .string (mkB X), .int .i64 0, .int .u32 0, .int .i64 0, .int .i64 0, .int .i64 0]) := HB5.out.read hR6 hg6
            clear hR6 hg6 HB5
            go_wp2_with fail
            refine (cnumI_any H4.out w6 HB6.out.st.c (by omega)).mono ?_
            rintro e w7 ⟨rfl, hRx, hgx⟩
            have hBx := HB6.out.read hRx hgx
            have d1 : w7.cell? ⟨b, 2, none⟩ = some (.int .i64 0) := (hBx.at 2).trans rfl
            have fd1 := hBx.fz 2
            have hBs := hBx.set 2 (.int .i64 (m : Int))
            obtain ⟨W7, hWx⟩ : ∃ W7, W7 = w7.setCell ⟨b, 2, none⟩ (.int .i64 (m : Int)) := ⟨_, rfl⟩
            rw [← hWx] at hBs
            have HB7 : Hid (RdB w W7 R s4 (.slice ua ns.length uc) ns (.slice qa P.length qc) P b #[.string ⟨#[]⟩, .string (mkB X), .int .i64 (m : Int), .int .u32 0, .int .i64 0, .int .i64 0, .int .i64 0]) := hBs
            clear hRx hgx hBx hBs HB6
            go_upto_region 16 with fail
            rw [← hWx]
            clear hWx d1 fd1
            go_wp2_with fail
            refine (cnumI_any H5.out W7 HB7.out.st.c (by omega)).mono ?_
            rintro e w8 ⟨rfl, hRx, hgx⟩
            have hBx := HB7.out.read hRx hgx
            have d1 : w8.cell? ⟨b, 3, none⟩ = some (.int .u32 0) := (hBx.at 3).trans rfl
            have fd1 := hBx.fz 3
            have hBs := hBx.set 3 (.int .u32 (c : Int))
            obtain ⟨W8, hWx⟩ : ∃ W8, W8 = w8.setCell ⟨b, 3, none⟩ (.int .u32 (c : Int)) := ⟨_, rfl⟩
            rw [← hWx] at hBs
            have HB8 : Hid (RdB w W8 R s5 (.slice ua ns.length uc) ns (.slice qa P.length qc) P b #[.string ⟨#[]⟩, .string (mkB X), .int .i64 (m : Int), .int .u32 (c : Int), .int .i64 0, .int .i64 0, .int .i64 0]) := hBs
            clear hRx hgx hBx hBs HB7
            go_upto_region 17 with fail
            rw [← hWx]
            clear hWx d1 fd1
            go_wp2_with fail
            refine (cnumI_any H6.out W8 HB8.out.st.c (by omega)).mono ?_
            rintro e w9 ⟨rfl, hRx, hgx⟩
            have hBx := HB8.out.read hRx hgx
            have d1 : w9.cell? ⟨b, 4, none⟩ = some (.int .i64 0) := (hBx.at 4).trans rfl
            have fd1 := hBx.fz 4
            have hBs := hBx.set 4 (.int .i64 (p : Int))
            obtain ⟨W9, hWx⟩ : ∃ W9, W9 = w9.setCell ⟨b, 4, none⟩ (.int .i64 (p : Int)) := ⟨_, rfl⟩
            rw [← hWx] at hBs
            have HB9 : Hid (RdB w W9 R s6 (.slice ua ns.length uc) ns (.slice qa P.length qc) P b #[.string ⟨#[]⟩, .string (mkB X), .int .i64 (m : Int), .int .u32 (c : Int), .int .i64 (p : Int), .int .i64 0, .int .i64 0]) := hBs
            clear hRx hgx hBx hBs HB8
            go_upto_region 18 with fail
            rw [← hWx]
            clear hWx d1 fd1
            go_wp2_with fail
            refine (cnumI_any H7.out W9 HB9.out.st.c (by omega)).mono ?_
            rintro e w10 ⟨rfl, hRx, hgx⟩
            have hBx := HB9.out.read hRx hgx
            have d1 : w10.cell? ⟨b, 5, none⟩ = some (.int .i64 0) := (hBx.at 5).trans rfl
            have fd1 := hBx.fz 5
            have hBs := hBx.set 5 (.int .i64 (z : Int))
            obtain ⟨W10, hWx⟩ : ∃ W10, W10 = w10.setCell ⟨b, 5, none⟩ (.int .i64 (z : Int)) := ⟨_, rfl⟩
            rw [← hWx] at hBs
            have HB10 : Hid (RdB w W10 R s7 (.slice ua ns.length uc) ns (.slice qa P.length qc) P b #[.string ⟨#[]⟩, .string (mkB X), .int .i64 (m : Int), .int .u32 (c : Int), .int .i64 (p : Int), .int .i64 (z : Int), .int .i64 0]) := hBs
            clear hRx hgx hBx hBs HB9
            go_upto_region 19 with fail
            rw [← hWx]
            clear hWx d1 fd1
            go_wp2_with fail
            refine (cnumI_any H8.out W10 HB10.out.st.c (by omega)).mono ?_
            rintro e w11 ⟨rfl, hRx, hgx⟩
            have hBx := HB10.out.read hRx hgx
            have d1 : w11.cell? ⟨b, 6, none⟩ = some (.int .i64 0) := (hBx.at 6).trans rfl
            have fd1 := hBx.fz 6
            have hBs := hBx.set 6 (.int .i64 (a : Int))
            obtain ⟨W11, hWx⟩ : ∃ W11, W11 = w11.setCell ⟨b, 6, none⟩ (.int .i64 (a : Int)) := ⟨_, rfl⟩
            rw [← hWx] at hBs
            have HB11 : Hid (RdB w W11 R s8 (.slice ua ns.length uc) ns (.slice qa P.length qc) P b #[.string ⟨#[]⟩, .string (mkB X), .int .i64 (m : Int), .int .u32 (c : Int), .int .i64 (p : Int), .int .i64 (z : Int), .int .i64 (a : Int)]) := hBs
            clear hRx hgx hBx hBs HB10
            go_upto_region 20 with fail
            rw [← hWx]
            clear hWx d1 fd1
            obtain ⟨BD, hBD⟩ : ∃ BD : Bool, BD = (decide (ns.length ≤ kk) || !isNm X || notUp P X) := ⟨_, rfl⟩
            have HBD : Hid (BD = (decide (ns.length ≤ kk) || !isNm X || notUp P X)) := hBD
            have x0 := HB11.out.x0
            have x1 := HB11.out.x1
            have b1 : W11.cell? ⟨b, 1, none⟩ = some (.string (mkB X)) := (HB11.out.at 1).trans rfl
            clear hBD
            go_cut [109] (fun t wx => t = .bool BD ∧ RdB w wx R s8 (.slice ua ns.length uc) ns (.slice qa P.length qc) P b #[.string ⟨#[]⟩, .string (mkB X), .int .i64 (m : Int), .int .u32 (c : Int), .int .i64 (p : Int), .int .i64 (z : Int), .int .i64 (a : Int)])
            case first =>
              by_cases hA : ns.length ≤ kk
              · have hAi : (ns.length : Int) ≤ (kk : Int) := by omega
                obtain rfl : BD = true := by rw [HBD.out, decide_eq_true hA]; rfl
                go_quiet (fail)
                go_wp2
                go_meet
                exact ⟨rfl, HB11.out.below ⟨rfl, rfl, rfl, Nat.le_refl _, fun k hk => rfl⟩⟩
              · have hAi : decide ((ns.length : Int) ≤ (kk : Int)) = false := decide_eq_false (by omega)
                have hAn : decide (ns.length ≤ kk) = false := decide_eq_false hA
                have HA : Hid (¬ ns.length ≤ kk) := hA
                have hch0 : Below W11.heap.size W11 W11.drew := (Below.refl _ _).drew
                have HBT : Hid (∀ a b, Below W11.heap.size W11 a → Below a.heap.size a b → Below W11.heap.size W11 b) := fun a b ha hb => ha.trans (hb.mono ha.size)
                have hbl : b < W11.heap.size := (Array.getElem?_eq_some_iff.1 HB11.out.cell).1
                have hRl : R + 2 < W11.heap.size := HB11.out.st.lt
                clear hA
                cases hnm : isNm X
                · obtain rfl : BD = true := by rw [HBD.out, hnm]; simp
                  have HSB : Hid (∀ a, Below W11.heap.size W11 a → a.cell? ⟨R + 2, 0, none⟩ = some (.slice ua ns.length uc) ∧ a.cell? ⟨b, 1, none⟩ = some (.string (mkB X))) := fun a ha => ⟨(ha.cell (p := ⟨R + 2, 0, none⟩) hRl).trans x0, (ha.cell (p := ⟨b, 1, none⟩) hbl).trans b1⟩
                  clear x0 x1 b1
                  --R20N{
                  refine wp_region_held_drew (S := fun W => Below W11.heap.size W11 W) (by kernel_rfl) hch0 (fun hHeld => ?_)
                  change wpAnyH _ _ _ _ _ 30 (Array.replicate 30 false) _ _
                  refine take_op (i := 0) rfl (by kernel_rfl) (by kernel_rfl) (by kernel_rfl) (fun _ _ _ _ h => h) 80 rfl (.int .i64 (kk : Int)) (Or.inl ⟨by rfl, by intro w hSw; go_simp⟩) hHeld ?_
                  simp only [Act.put, List.setIfInBounds_toArray, List.set_cons_zero, List.set_cons_succ]
                  refine take_op (i := 1) rfl (by kernel_rfl) (by kernel_rfl) (by kernel_rfl) (fun _ _ _ _ h => h) 81 rfl (.pointer (some ⟨R + 2, 0, none⟩)) (Or.inl ⟨by rfl, by intro w hSw; go_simp⟩) hHeld ?_
                  simp only [Act.put, List.setIfInBounds_toArray, List.set_cons_zero, List.set_cons_succ]
                  refine take_op (i := 2) rfl (by kernel_rfl) (by kernel_rfl) (by kernel_rfl) (fun _ _ _ _ h => h) 82 rfl (.slice ua ns.length uc) (Or.inl ⟨by rfl, by intro w hSw; have hc9 := HSB.out _ hSw; go_split_ands; go_simp⟩) hHeld ?_
                  simp only [Act.put, List.setIfInBounds_toArray, List.set_cons_zero, List.set_cons_succ]
                  refine take_op (i := 3) rfl (by kernel_rfl) (by kernel_rfl) (by kernel_rfl) (fun _ _ _ _ h => h) 83 rfl (.int .i64 (ns.length : Int)) (Or.inl ⟨by rfl, by intro w hSw; go_simp⟩) hHeld ?_
                  simp only [Act.put, List.setIfInBounds_toArray, List.set_cons_zero, List.set_cons_succ]
                  refine take_op (i := 4) rfl (by kernel_rfl) (by kernel_rfl) (by kernel_rfl) (fun _ _ _ _ h => h) 84 rfl (.bool false) (Or.inl ⟨by rfl, by intro w hSw; go_simp⟩) hHeld ?_
                  simp only [Act.put, List.setIfInBounds_toArray, List.set_cons_zero, List.set_cons_succ]
                  refine take_op (i := 5) rfl (by kernel_rfl) (by kernel_rfl) (by kernel_rfl) (fun _ _ _ _ h => h) 85 rfl (.bool false) (Or.inl ⟨by rfl, by intro w hSw; go_simp⟩) hHeld ?_
                  simp only [Act.put, List.setIfInBounds_toArray, List.set_cons_zero, List.set_cons_succ]
                  refine take_op (i := 6) rfl (by kernel_rfl) (by kernel_rfl) (by kernel_rfl) (fun _ _ _ _ h => h) 86 rfl (.pointer (some ⟨b, 1, none⟩)) (Or.inl ⟨by rfl, by intro w hSw; go_simp⟩) hHeld ?_
                  simp only [Act.put, List.setIfInBounds_toArray, List.set_cons_zero, List.set_cons_succ]
                  refine take_op (i := 7) rfl (by kernel_rfl) (by kernel_rfl) (by kernel_rfl) (fun _ _ _ _ h => h) 87 rfl (.pointer (some ⟨b, 1, none⟩)) (Or.inl ⟨by rfl, by intro w hSw; go_simp⟩) hHeld ?_
                  simp only [Act.put, List.setIfInBounds_toArray, List.set_cons_zero, List.set_cons_succ]
                  refine take_op (i := 8) rfl (by kernel_rfl) (by kernel_rfl) (by kernel_rfl) (fun _ _ _ _ h => h) 88 rfl (.string (mkB X)) (Or.inl ⟨by rfl, by intro w hSw; have hc9 := HSB.out _ hSw; go_split_ands; go_simp⟩) hHeld ?_
                  simp only [Act.put, List.setIfInBounds_toArray, List.set_cons_zero, List.set_cons_succ]
                  refine wpAnyH_ready (rs := [9]) (by kernel_rfl) (by simp) ?_
                  refine AllReadyH.cons rfl (fun K hK => ?_) AllReadyH.nil
                  go_simp
                  go_at_call 32
                  refine (named_any X _ (by omega)).mono ?_
                  rw [hnm]
                  rintro e w12 ⟨rfl, hb12⟩
                  have hch12 : Below W11.heap.size W11 w12 := HBT.out _ _ hch0 hb12
                  clear hb12
                  go_wp2_with fail
                  refine hK.out _ _ hch12 (fun hHeld2 => ?_)
                  clear hK K hHeld2 hHeld
                  have hHeld := hch12
                  refine take_op (i := 10) rfl (by kernel_rfl) (by kernel_rfl) (by kernel_rfl) (fun _ _ _ _ h => h) 90 rfl (.bool true) (Or.inl ⟨by rfl, by intro w hSw; go_simp⟩) hHeld ?_
                  simp only [Act.put, List.setIfInBounds_toArray, List.set_cons_zero, List.set_cons_succ]
                  refine take_op (i := 11) rfl (by kernel_rfl) (by kernel_rfl) (by kernel_rfl) (fun _ _ _ _ h => h) 91 rfl (.bool true) (Or.inl ⟨by rfl, by intro w hSw; go_simp⟩) hHeld ?_
                  simp only [Act.put, List.setIfInBounds_toArray, List.set_cons_zero, List.set_cons_succ]
                  refine take_op (i := 12) rfl (by kernel_rfl) (by kernel_rfl) (by kernel_rfl) (fun _ _ _ _ h => h) 92 rfl (.bool true) (Or.inl ⟨by rfl, by intro w hSw; go_simp⟩) hHeld ?_
                  simp only [Act.put, List.setIfInBounds_toArray, List.set_cons_zero, List.set_cons_succ]
                  refine take_op (i := 13) rfl (by kernel_rfl) (by kernel_rfl) (by kernel_rfl) (fun _ _ _ _ h => h) 93 rfl undef (Or.inr ⟨by rfl, rfl⟩) hHeld ?_
                  simp only [Act.put, List.setIfInBounds_toArray, List.set_cons_zero, List.set_cons_succ]
                  refine take_op (i := 14) rfl (by kernel_rfl) (by kernel_rfl) (by kernel_rfl) (fun _ _ _ _ h => h) 94 rfl undef (Or.inr ⟨by rfl, rfl⟩) hHeld ?_
                  simp only [Act.put, List.setIfInBounds_toArray, List.set_cons_zero, List.set_cons_succ]
                  refine take_op (i := 15) rfl (by kernel_rfl) (by kernel_rfl) (by kernel_rfl) (fun _ _ _ _ h => h) 95 rfl undef (Or.inr ⟨by rfl, rfl⟩) hHeld ?_
                  simp only [Act.put, List.setIfInBounds_toArray, List.set_cons_zero, List.set_cons_succ]
                  refine take_op (i := 16) rfl (by kernel_rfl) (by kernel_rfl) (by kernel_rfl) (fun _ _ _ _ h => h) 96 rfl undef (Or.inr ⟨by rfl, rfl⟩) hHeld ?_
                  simp only [Act.put, List.setIfInBounds_toArray, List.set_cons_zero, List.set_cons_succ]
                  refine take_op (i := 17) rfl (by kernel_rfl) (by kernel_rfl) (by kernel_rfl) (fun _ _ _ _ h => h) 97 rfl undef (Or.inr ⟨by rfl, rfl⟩) hHeld ?_
                  simp only [Act.put, List.setIfInBounds_toArray, List.set_cons_zero, List.set_cons_succ]
                  refine take_op (i := 18) rfl (by kernel_rfl) (by kernel_rfl) (by kernel_rfl) (fun _ _ _ _ h => h) 98 rfl undef (Or.inr ⟨by rfl, rfl⟩) hHeld ?_
                  simp only [Act.put, List.setIfInBounds_toArray, List.set_cons_zero, List.set_cons_succ]
                  refine take_op (i := 19) rfl (by kernel_rfl) (by kernel_rfl) (by kernel_rfl) (fun _ _ _ _ h => h) 99 rfl undef (Or.inr ⟨by rfl, rfl⟩) hHeld ?_
                  simp only [Act.put, List.setIfInBounds_toArray, List.set_cons_zero, List.set_cons_succ]
                  refine take_op (i := 20) rfl (by kernel_rfl) (by kernel_rfl) (by kernel_rfl) (fun _ _ _ _ h => h) 100 rfl undef (Or.inr ⟨by rfl, rfl⟩) hHeld ?_
                  simp only [Act.put, List.setIfInBounds_toArray, List.set_cons_zero, List.set_cons_succ]
                  refine take_op (i := 21) rfl (by kernel_rfl) (by kernel_rfl) (by kernel_rfl) (fun _ _ _ _ h => h) 101 rfl undef (Or.inr ⟨by rfl, rfl⟩) hHeld ?_
                  simp only [Act.put, List.setIfInBounds_toArray, List.set_cons_zero, List.set_cons_succ]
                  refine take_op (i := 22) rfl (by kernel_rfl) (by kernel_rfl) (by kernel_rfl) (fun _ _ _ _ h => h) 102 rfl undef (Or.inr ⟨by rfl, rfl⟩) hHeld ?_
                  simp only [Act.put, List.setIfInBounds_toArray, List.set_cons_zero, List.set_cons_succ]
                  refine take_op (i := 23) rfl (by kernel_rfl) (by kernel_rfl) (by kernel_rfl) (fun _ _ _ _ h => h) 103 rfl undef (Or.inr ⟨by rfl, rfl⟩) hHeld ?_
                  simp only [Act.put, List.setIfInBounds_toArray, List.set_cons_zero, List.set_cons_succ]
                  refine take_op (i := 24) rfl (by kernel_rfl) (by kernel_rfl) (by kernel_rfl) (fun _ _ _ _ h => h) 104 rfl undef (Or.inr ⟨by rfl, rfl⟩) hHeld ?_
                  simp only [Act.put, List.setIfInBounds_toArray, List.set_cons_zero, List.set_cons_succ]
                  refine take_op (i := 25) rfl (by kernel_rfl) (by kernel_rfl) (by kernel_rfl) (fun _ _ _ _ h => h) 105 rfl undef (Or.inr ⟨by rfl, rfl⟩) hHeld ?_
                  simp only [Act.put, List.setIfInBounds_toArray, List.set_cons_zero, List.set_cons_succ]
                  refine take_op (i := 26) rfl (by kernel_rfl) (by kernel_rfl) (by kernel_rfl) (fun _ _ _ _ h => h) 106 rfl undef (Or.inr ⟨by rfl, rfl⟩) hHeld ?_
                  simp only [Act.put, List.setIfInBounds_toArray, List.set_cons_zero, List.set_cons_succ]
                  refine take_op (i := 27) rfl (by kernel_rfl) (by kernel_rfl) (by kernel_rfl) (fun _ _ _ _ h => h) 107 rfl undef (Or.inr ⟨by rfl, rfl⟩) hHeld ?_
                  simp only [Act.put, List.setIfInBounds_toArray, List.set_cons_zero, List.set_cons_succ]
                  refine take_op (i := 28) rfl (by kernel_rfl) (by kernel_rfl) (by kernel_rfl) (fun _ _ _ _ h => h) 108 rfl undef (Or.inr ⟨by rfl, rfl⟩) hHeld ?_
                  simp only [Act.put, List.setIfInBounds_toArray, List.set_cons_zero, List.set_cons_succ]
                  refine take_op (i := 29) rfl (by kernel_rfl) (by kernel_rfl) (by kernel_rfl) (fun _ _ _ _ h => h) 109 rfl (.bool true) (Or.inl ⟨by rfl, by intro w hSw; go_simp⟩) hHeld ?_
                  simp only [Act.put, List.setIfInBounds_toArray, List.set_cons_zero, List.set_cons_succ]
                  refine wpAnyH_done (by kernel_rfl) ?_ _
                  have HB12 : Hid (RdB w w12 R s8 (.slice ua ns.length uc) ns (.slice qa P.length qc) P b #[.string ⟨#[]⟩, .string (mkB X), .int .i64 (m : Int), .int .u32 (c : Int), .int .i64 (p : Int), .int .i64 (z : Int), .int .i64 (a : Int)]) := HB11.out.below hch12
                  clear hch12 hHeld
                  go_wp2
                  go_meet
                  exact ⟨rfl, HB12.out⟩
                  --}R20N
                · rcases Nat.eq_zero_or_pos P.length with hP0 | hP0
                  · obtain rfl : P = [] := List.eq_nil_of_length_eq_zero hP0
                    obtain rfl : BD = false := by rw [HBD.out, hnm]; simp [notUp]; exact Nat.lt_of_not_le HA.out
                    have hk0 : k = 0 := by rw [hkP]; rfl
                    have hkn : decide (0 < k) = false := decide_eq_false (by omega)
                    have hki : decide ((0 : Int) < (k : Int)) = false := decide_eq_false (by omega)
                    have HSB : Hid (∀ a, Below W11.heap.size W11 a → a.cell? ⟨R + 2, 0, none⟩ = some (.slice ua ns.length uc) ∧ a.cell? ⟨b, 1, none⟩ = some (.string (mkB X))) := fun a ha => ⟨(ha.cell (p := ⟨R + 2, 0, none⟩) hRl).trans x0, (ha.cell (p := ⟨b, 1, none⟩) hbl).trans b1⟩
                    clear x0 x1 b1 hk0 hP0 hkP
                    --R20Z{
                    refine wp_region_held_drew (S := fun W => Below W11.heap.size W11 W) (by kernel_rfl) hch0 (fun hHeld => ?_)
                    change wpAnyH _ _ _ _ _ 30 (Array.replicate 30 false) _ _
                    refine take_op (i := 0) rfl (by kernel_rfl) (by kernel_rfl) (by kernel_rfl) (fun _ _ _ _ h => h) 80 rfl (.int .i64 (kk : Int)) (Or.inl ⟨by rfl, by intro w hSw; go_simp⟩) hHeld ?_
                    simp only [Act.put, List.setIfInBounds_toArray, List.set_cons_zero, List.set_cons_succ]
                    refine take_op (i := 1) rfl (by kernel_rfl) (by kernel_rfl) (by kernel_rfl) (fun _ _ _ _ h => h) 81 rfl (.pointer (some ⟨R + 2, 0, none⟩)) (Or.inl ⟨by rfl, by intro w hSw; go_simp⟩) hHeld ?_
                    simp only [Act.put, List.setIfInBounds_toArray, List.set_cons_zero, List.set_cons_succ]
                    refine take_op (i := 2) rfl (by kernel_rfl) (by kernel_rfl) (by kernel_rfl) (fun _ _ _ _ h => h) 82 rfl (.slice ua ns.length uc) (Or.inl ⟨by rfl, by intro w hSw; have hc9 := HSB.out _ hSw; go_split_ands; go_simp⟩) hHeld ?_
                    simp only [Act.put, List.setIfInBounds_toArray, List.set_cons_zero, List.set_cons_succ]
                    refine take_op (i := 3) rfl (by kernel_rfl) (by kernel_rfl) (by kernel_rfl) (fun _ _ _ _ h => h) 83 rfl (.int .i64 (ns.length : Int)) (Or.inl ⟨by rfl, by intro w hSw; go_simp⟩) hHeld ?_
                    simp only [Act.put, List.setIfInBounds_toArray, List.set_cons_zero, List.set_cons_succ]
                    refine take_op (i := 4) rfl (by kernel_rfl) (by kernel_rfl) (by kernel_rfl) (fun _ _ _ _ h => h) 84 rfl (.bool false) (Or.inl ⟨by rfl, by intro w hSw; go_simp⟩) hHeld ?_
                    simp only [Act.put, List.setIfInBounds_toArray, List.set_cons_zero, List.set_cons_succ]
                    refine take_op (i := 5) rfl (by kernel_rfl) (by kernel_rfl) (by kernel_rfl) (fun _ _ _ _ h => h) 85 rfl (.bool false) (Or.inl ⟨by rfl, by intro w hSw; go_simp⟩) hHeld ?_
                    simp only [Act.put, List.setIfInBounds_toArray, List.set_cons_zero, List.set_cons_succ]
                    refine take_op (i := 6) rfl (by kernel_rfl) (by kernel_rfl) (by kernel_rfl) (fun _ _ _ _ h => h) 86 rfl (.pointer (some ⟨b, 1, none⟩)) (Or.inl ⟨by rfl, by intro w hSw; go_simp⟩) hHeld ?_
                    simp only [Act.put, List.setIfInBounds_toArray, List.set_cons_zero, List.set_cons_succ]
                    refine take_op (i := 7) rfl (by kernel_rfl) (by kernel_rfl) (by kernel_rfl) (fun _ _ _ _ h => h) 87 rfl (.pointer (some ⟨b, 1, none⟩)) (Or.inl ⟨by rfl, by intro w hSw; go_simp⟩) hHeld ?_
                    simp only [Act.put, List.setIfInBounds_toArray, List.set_cons_zero, List.set_cons_succ]
                    refine take_op (i := 8) rfl (by kernel_rfl) (by kernel_rfl) (by kernel_rfl) (fun _ _ _ _ h => h) 88 rfl (.string (mkB X)) (Or.inl ⟨by rfl, by intro w hSw; have hc9 := HSB.out _ hSw; go_split_ands; go_simp⟩) hHeld ?_
                    simp only [Act.put, List.setIfInBounds_toArray, List.set_cons_zero, List.set_cons_succ]
                    refine wpAnyH_ready (rs := [9]) (by kernel_rfl) (by simp) ?_
                    refine AllReadyH.cons rfl (fun K hK => ?_) AllReadyH.nil
                    go_simp
                    go_at_call 32
                    refine (named_any X _ (by omega)).mono ?_
                    rw [hnm]
                    rintro e w12 ⟨rfl, hb12⟩
                    have hch12 : Below W11.heap.size W11 w12 := HBT.out _ _ hch0 hb12
                    clear hb12
                    go_wp2_with fail
                    refine hK.out _ _ hch12 (fun hHeld2 => ?_)
                    clear hK K hHeld2 hHeld
                    have hHeld := hch12
                    refine take_op (i := 10) rfl (by kernel_rfl) (by kernel_rfl) (by kernel_rfl) (fun _ _ _ _ h => h) 90 rfl (.bool false) (Or.inl ⟨by rfl, by intro w hSw; go_simp⟩) hHeld ?_
                    simp only [Act.put, List.setIfInBounds_toArray, List.set_cons_zero, List.set_cons_succ]
                    refine take_op (i := 11) rfl (by kernel_rfl) (by kernel_rfl) (by kernel_rfl) (fun _ _ _ _ h => h) 91 rfl (.bool false) (Or.inl ⟨by rfl, by intro w hSw; go_simp⟩) hHeld ?_
                    simp only [Act.put, List.setIfInBounds_toArray, List.set_cons_zero, List.set_cons_succ]
                    refine take_op (i := 12) rfl (by kernel_rfl) (by kernel_rfl) (by kernel_rfl) (fun _ _ _ _ h => h) 92 rfl (.bool false) (Or.inl ⟨by rfl, by intro w hSw; go_simp⟩) hHeld ?_
                    simp only [Act.put, List.setIfInBounds_toArray, List.set_cons_zero, List.set_cons_succ]
                    refine take_op (i := 13) rfl (by kernel_rfl) (by kernel_rfl) (by kernel_rfl) (fun _ _ _ _ h => h) 93 rfl (.int .i64 0) (Or.inl ⟨by rfl, by intro w hSw; go_simp⟩) hHeld ?_
                    simp only [Act.put, List.setIfInBounds_toArray, List.set_cons_zero, List.set_cons_succ]
                    refine take_op (i := 14) rfl (by kernel_rfl) (by kernel_rfl) (by kernel_rfl) (fun _ _ _ _ h => h) 94 rfl (.bool false) (Or.inl ⟨by rfl, by intro w hSw; go_simp⟩) hHeld ?_
                    simp only [Act.put, List.setIfInBounds_toArray, List.set_cons_zero, List.set_cons_succ]
                    refine take_op (i := 15) rfl (by kernel_rfl) (by kernel_rfl) (by kernel_rfl) (fun _ _ _ _ h => h) 95 rfl (.bool false) (Or.inl ⟨by rfl, by intro w hSw; go_simp⟩) hHeld ?_
                    simp only [Act.put, List.setIfInBounds_toArray, List.set_cons_zero, List.set_cons_succ]
                    refine take_op (i := 16) rfl (by kernel_rfl) (by kernel_rfl) (by kernel_rfl) (fun _ _ _ _ h => h) 96 rfl undef (Or.inr ⟨by rfl, rfl⟩) hHeld ?_
                    simp only [Act.put, List.setIfInBounds_toArray, List.set_cons_zero, List.set_cons_succ]
                    refine take_op (i := 17) rfl (by kernel_rfl) (by kernel_rfl) (by kernel_rfl) (fun _ _ _ _ h => h) 97 rfl undef (Or.inr ⟨by rfl, rfl⟩) hHeld ?_
                    simp only [Act.put, List.setIfInBounds_toArray, List.set_cons_zero, List.set_cons_succ]
                    refine take_op (i := 18) rfl (by kernel_rfl) (by kernel_rfl) (by kernel_rfl) (fun _ _ _ _ h => h) 98 rfl undef (Or.inr ⟨by rfl, rfl⟩) hHeld ?_
                    simp only [Act.put, List.setIfInBounds_toArray, List.set_cons_zero, List.set_cons_succ]
                    refine take_op (i := 19) rfl (by kernel_rfl) (by kernel_rfl) (by kernel_rfl) (fun _ _ _ _ h => h) 99 rfl undef (Or.inr ⟨by rfl, rfl⟩) hHeld ?_
                    simp only [Act.put, List.setIfInBounds_toArray, List.set_cons_zero, List.set_cons_succ]
                    refine take_op (i := 20) rfl (by kernel_rfl) (by kernel_rfl) (by kernel_rfl) (fun _ _ _ _ h => h) 100 rfl undef (Or.inr ⟨by rfl, rfl⟩) hHeld ?_
                    simp only [Act.put, List.setIfInBounds_toArray, List.set_cons_zero, List.set_cons_succ]
                    refine take_op (i := 21) rfl (by kernel_rfl) (by kernel_rfl) (by kernel_rfl) (fun _ _ _ _ h => h) 101 rfl undef (Or.inr ⟨by rfl, rfl⟩) hHeld ?_
                    simp only [Act.put, List.setIfInBounds_toArray, List.set_cons_zero, List.set_cons_succ]
                    refine take_op (i := 22) rfl (by kernel_rfl) (by kernel_rfl) (by kernel_rfl) (fun _ _ _ _ h => h) 102 rfl undef (Or.inr ⟨by rfl, rfl⟩) hHeld ?_
                    simp only [Act.put, List.setIfInBounds_toArray, List.set_cons_zero, List.set_cons_succ]
                    refine take_op (i := 23) rfl (by kernel_rfl) (by kernel_rfl) (by kernel_rfl) (fun _ _ _ _ h => h) 103 rfl undef (Or.inr ⟨by rfl, rfl⟩) hHeld ?_
                    simp only [Act.put, List.setIfInBounds_toArray, List.set_cons_zero, List.set_cons_succ]
                    refine take_op (i := 24) rfl (by kernel_rfl) (by kernel_rfl) (by kernel_rfl) (fun _ _ _ _ h => h) 104 rfl undef (Or.inr ⟨by rfl, rfl⟩) hHeld ?_
                    simp only [Act.put, List.setIfInBounds_toArray, List.set_cons_zero, List.set_cons_succ]
                    refine take_op (i := 25) rfl (by kernel_rfl) (by kernel_rfl) (by kernel_rfl) (fun _ _ _ _ h => h) 105 rfl undef (Or.inr ⟨by rfl, rfl⟩) hHeld ?_
                    simp only [Act.put, List.setIfInBounds_toArray, List.set_cons_zero, List.set_cons_succ]
                    refine take_op (i := 26) rfl (by kernel_rfl) (by kernel_rfl) (by kernel_rfl) (fun _ _ _ _ h => h) 106 rfl undef (Or.inr ⟨by rfl, rfl⟩) hHeld ?_
                    simp only [Act.put, List.setIfInBounds_toArray, List.set_cons_zero, List.set_cons_succ]
                    refine take_op (i := 27) rfl (by kernel_rfl) (by kernel_rfl) (by kernel_rfl) (fun _ _ _ _ h => h) 107 rfl undef (Or.inr ⟨by rfl, rfl⟩) hHeld ?_
                    simp only [Act.put, List.setIfInBounds_toArray, List.set_cons_zero, List.set_cons_succ]
                    refine take_op (i := 28) rfl (by kernel_rfl) (by kernel_rfl) (by kernel_rfl) (fun _ _ _ _ h => h) 108 rfl (.bool false) (Or.inl ⟨by rfl, by intro w hSw; go_simp⟩) hHeld ?_
                    simp only [Act.put, List.setIfInBounds_toArray, List.set_cons_zero, List.set_cons_succ]
                    refine take_op (i := 29) rfl (by kernel_rfl) (by kernel_rfl) (by kernel_rfl) (fun _ _ _ _ h => h) 109 rfl (.bool false) (Or.inl ⟨by rfl, by intro w hSw; go_simp⟩) hHeld ?_
                    simp only [Act.put, List.setIfInBounds_toArray, List.set_cons_zero, List.set_cons_succ]
                    refine wpAnyH_done (by kernel_rfl) ?_ _
                    have HB12 : Hid (RdB w w12 R s8 (.slice ua ns.length uc) ns (.slice qa ([] : List Pl).length qc) [] b #[.string ⟨#[]⟩, .string (mkB X), .int .i64 (m : Int), .int .u32 (c : Int), .int .i64 (p : Int), .int .i64 (z : Int), .int .i64 (a : Int)]) := HB11.out.below hch12
                    clear hch12 hHeld
                    go_wp2
                    go_meet
                    exact ⟨rfl, HB12.out⟩
                    --}R20Z
                  · obtain ⟨N9, gq, hqa, hgq, hcN, hnu⟩ : ∃ N9 gq, qa = some ⟨gq, 0, none⟩ ∧ gq < W11.heap.size ∧ W11.cell? ⟨gq, (P.length - 1) * 7 + 1, none⟩ = some (.string (mkB N9)) ∧ notUp P X = !decide (N9 < X) := by
                      have hq := HB11.out.st.q
                      obtain ⟨p9, hp9⟩ : ∃ p9, P[P.length - 1]? = some p9 := ⟨_, List.getElem?_eq_getElem (by omega)⟩
                      have hgl : P.getLast? = some p9 := by rw [List.getLast?_eq_getElem?]; exact hp9
                      have hcl := plsC_at P _ p9 hp9 1 (by omega)
                      rcases hq.2 with ⟨h9, h10⟩ | ⟨g, cap, cur, hv, hb, hg, rest⟩
                      · omega
                      · injection hv with e1 e2 e3
                        refine ⟨p9.h.n, g, e1, (Array.getElem?_eq_some_iff.1 hg).1, ?_, by unfold notUp; rw [hgl]⟩
                        have h9 := World.ownsRow.cells hq (g := g) (by rw [e1]; rfl) ((P.length - 1) * 7 + 1) (.string (mkB p9.h.n)) (hcl.trans rfl)
                        rw [add_plain] at h9
                        exact h9
                    subst hqa
                    obtain rfl : BD = !decide (N9 < X) := by rw [HBD.out, hnm, hnu, decide_eq_false HA.out]; simp
                    obtain ⟨k1, hk1⟩ : ∃ k1, k1 = P.length - 1 := ⟨_, rfl⟩
                    rw [← hk1] at hcN
                    have hkn : decide (0 < k) = true := decide_eq_true (by omega)
                    have hki : decide ((0 : Int) < (k : Int)) = true := decide_eq_true (by omega)
                    have hkw : IntKind.i64.wrap ((k : Int) - 1) = (k1 : Int) := by rw [show (k : Int) - 1 = (k1 : Int) by omega]; simp [IntKind.wrap, IntKind.signed, IntKind.bits]; omega
                    have hkw2 : IntKind.i64.wrap ((P.length : Int) - 1) = (k1 : Int) := by rw [← hkw, hkP]
                    have hkp : decide (0 < P.length) = true := decide_eq_true hP0
                    have hk1i : (k1 : Int) < (P.length : Int) := by omega
                    have hk1n : k1 < P.length := by omega
                    have HSB : Hid (∀ a, Below W11.heap.size W11 a → a.cell? ⟨R + 2, 0, none⟩ = some (.slice ua ns.length uc) ∧ a.cell? ⟨b, 1, none⟩ = some (.string (mkB X)) ∧ a.cell? ⟨R + 2, 1, none⟩ = some (.slice (some ⟨gq, 0, none⟩) P.length qc) ∧ a.cell? ⟨gq, k1 * 7 + 1, none⟩ = some (.string (mkB N9))) := fun a ha => ⟨(ha.cell (p := ⟨R + 2, 0, none⟩) hRl).trans x0, (ha.cell (p := ⟨b, 1, none⟩) hbl).trans b1, (ha.cell (p := ⟨R + 2, 1, none⟩) hRl).trans x1, (ha.cell (p := ⟨gq, k1 * 7 + 1, none⟩) hgq).trans hcN⟩
                    clear x0 x1 b1 hkP hcN hnu hk1 hP0 hgq
                    --R20L{
                    refine wp_region_held_drew (S := fun W => Below W11.heap.size W11 W) (by kernel_rfl) hch0 (fun hHeld => ?_)
                    change wpAnyH _ _ _ _ _ 30 (Array.replicate 30 false) _ _
                    refine take_op (i := 0) rfl (by kernel_rfl) (by kernel_rfl) (by kernel_rfl) (fun _ _ _ _ h => h) 80 rfl (.int .i64 (kk : Int)) (Or.inl ⟨by rfl, by intro w hSw; go_simp⟩) hHeld ?_
                    simp only [Act.put, List.setIfInBounds_toArray, List.set_cons_zero, List.set_cons_succ]
                    refine take_op (i := 1) rfl (by kernel_rfl) (by kernel_rfl) (by kernel_rfl) (fun _ _ _ _ h => h) 81 rfl (.pointer (some ⟨R + 2, 0, none⟩)) (Or.inl ⟨by rfl, by intro w hSw; go_simp⟩) hHeld ?_
                    simp only [Act.put, List.setIfInBounds_toArray, List.set_cons_zero, List.set_cons_succ]
                    refine take_op (i := 2) rfl (by kernel_rfl) (by kernel_rfl) (by kernel_rfl) (fun _ _ _ _ h => h) 82 rfl (.slice ua ns.length uc) (Or.inl ⟨by rfl, by intro w hSw; have hc9 := HSB.out _ hSw; go_split_ands; go_simp⟩) hHeld ?_
                    simp only [Act.put, List.setIfInBounds_toArray, List.set_cons_zero, List.set_cons_succ]
                    refine take_op (i := 3) rfl (by kernel_rfl) (by kernel_rfl) (by kernel_rfl) (fun _ _ _ _ h => h) 83 rfl (.int .i64 (ns.length : Int)) (Or.inl ⟨by rfl, by intro w hSw; go_simp⟩) hHeld ?_
                    simp only [Act.put, List.setIfInBounds_toArray, List.set_cons_zero, List.set_cons_succ]
                    refine take_op (i := 4) rfl (by kernel_rfl) (by kernel_rfl) (by kernel_rfl) (fun _ _ _ _ h => h) 84 rfl (.bool false) (Or.inl ⟨by rfl, by intro w hSw; go_simp⟩) hHeld ?_
                    simp only [Act.put, List.setIfInBounds_toArray, List.set_cons_zero, List.set_cons_succ]
                    refine take_op (i := 5) rfl (by kernel_rfl) (by kernel_rfl) (by kernel_rfl) (fun _ _ _ _ h => h) 85 rfl (.bool false) (Or.inl ⟨by rfl, by intro w hSw; go_simp⟩) hHeld ?_
                    simp only [Act.put, List.setIfInBounds_toArray, List.set_cons_zero, List.set_cons_succ]
                    refine take_op (i := 6) rfl (by kernel_rfl) (by kernel_rfl) (by kernel_rfl) (fun _ _ _ _ h => h) 86 rfl (.pointer (some ⟨b, 1, none⟩)) (Or.inl ⟨by rfl, by intro w hSw; go_simp⟩) hHeld ?_
                    simp only [Act.put, List.setIfInBounds_toArray, List.set_cons_zero, List.set_cons_succ]
                    refine take_op (i := 7) rfl (by kernel_rfl) (by kernel_rfl) (by kernel_rfl) (fun _ _ _ _ h => h) 87 rfl (.pointer (some ⟨b, 1, none⟩)) (Or.inl ⟨by rfl, by intro w hSw; go_simp⟩) hHeld ?_
                    simp only [Act.put, List.setIfInBounds_toArray, List.set_cons_zero, List.set_cons_succ]
                    refine take_op (i := 8) rfl (by kernel_rfl) (by kernel_rfl) (by kernel_rfl) (fun _ _ _ _ h => h) 88 rfl (.string (mkB X)) (Or.inl ⟨by rfl, by intro w hSw; have hc9 := HSB.out _ hSw; go_split_ands; go_simp⟩) hHeld ?_
                    simp only [Act.put, List.setIfInBounds_toArray, List.set_cons_zero, List.set_cons_succ]
                    refine wpAnyH_ready (rs := [9]) (by kernel_rfl) (by simp) ?_
                    refine AllReadyH.cons rfl (fun K hK => ?_) AllReadyH.nil
                    go_simp
                    go_at_call 32
                    refine (named_any X _ (by omega)).mono ?_
                    rw [hnm]
                    rintro e w12 ⟨rfl, hb12⟩
                    have hch12 : Below W11.heap.size W11 w12 := HBT.out _ _ hch0 hb12
                    clear hb12
                    go_wp2_with fail
                    refine hK.out _ _ hch12 (fun hHeld2 => ?_)
                    clear hK K hHeld2 hHeld
                    have hHeld := hch12
                    refine take_op (i := 10) rfl (by kernel_rfl) (by kernel_rfl) (by kernel_rfl) (fun _ _ _ _ h => h) 90 rfl (.bool false) (Or.inl ⟨by rfl, by intro w hSw; go_simp⟩) hHeld ?_
                    simp only [Act.put, List.setIfInBounds_toArray, List.set_cons_zero, List.set_cons_succ]
                    refine take_op (i := 11) rfl (by kernel_rfl) (by kernel_rfl) (by kernel_rfl) (fun _ _ _ _ h => h) 91 rfl (.bool false) (Or.inl ⟨by rfl, by intro w hSw; go_simp⟩) hHeld ?_
                    simp only [Act.put, List.setIfInBounds_toArray, List.set_cons_zero, List.set_cons_succ]
                    refine take_op (i := 12) rfl (by kernel_rfl) (by kernel_rfl) (by kernel_rfl) (fun _ _ _ _ h => h) 92 rfl (.bool false) (Or.inl ⟨by rfl, by intro w hSw; go_simp⟩) hHeld ?_
                    simp only [Act.put, List.setIfInBounds_toArray, List.set_cons_zero, List.set_cons_succ]
                    refine take_op (i := 13) rfl (by kernel_rfl) (by kernel_rfl) (by kernel_rfl) (fun _ _ _ _ h => h) 93 rfl (.int .i64 (P.length : Int)) (Or.inl ⟨by rfl, by intro w hSw; go_simp⟩) hHeld ?_
                    simp only [Act.put, List.setIfInBounds_toArray, List.set_cons_zero, List.set_cons_succ]
                    refine take_op (i := 14) rfl (by kernel_rfl) (by kernel_rfl) (by kernel_rfl) (fun _ _ _ _ h => h) 94 rfl (.bool true) (Or.inl ⟨by rfl, by intro w hSw; go_simp⟩) hHeld ?_
                    simp only [Act.put, List.setIfInBounds_toArray, List.set_cons_zero, List.set_cons_succ]
                    refine take_op (i := 15) rfl (by kernel_rfl) (by kernel_rfl) (by kernel_rfl) (fun _ _ _ _ h => h) 95 rfl (.bool true) (Or.inl ⟨by rfl, by intro w hSw; go_simp⟩) hHeld ?_
                    simp only [Act.put, List.setIfInBounds_toArray, List.set_cons_zero, List.set_cons_succ]
                    refine take_op (i := 16) rfl (by kernel_rfl) (by kernel_rfl) (by kernel_rfl) (fun _ _ _ _ h => h) 96 rfl (.pointer (some ⟨R + 2, 1, none⟩)) (Or.inl ⟨by rfl, by intro w hSw; go_simp⟩) hHeld ?_
                    simp only [Act.put, List.setIfInBounds_toArray, List.set_cons_zero, List.set_cons_succ]
                    refine take_op (i := 17) rfl (by kernel_rfl) (by kernel_rfl) (by kernel_rfl) (fun _ _ _ _ h => h) 97 rfl (.slice (some ⟨gq, 0, none⟩) P.length qc) (Or.inl ⟨by rfl, by intro w hSw; have hc9 := HSB.out _ hSw; go_split_ands; go_simp⟩) hHeld ?_
                    simp only [Act.put, List.setIfInBounds_toArray, List.set_cons_zero, List.set_cons_succ]
                    refine take_op (i := 18) rfl (by kernel_rfl) (by kernel_rfl) (by kernel_rfl) (fun _ _ _ _ h => h) 98 rfl (.int .i64 (P.length : Int)) (Or.inl ⟨by rfl, by intro w hSw; go_simp⟩) hHeld ?_
                    simp only [Act.put, List.setIfInBounds_toArray, List.set_cons_zero, List.set_cons_succ]
                    refine take_op (i := 19) rfl (by kernel_rfl) (by kernel_rfl) (by kernel_rfl) (fun _ _ _ _ h => h) 99 rfl (.int .i64 (k1 : Int)) (Or.inl ⟨by rfl, by intro w hSw; go_simp⟩) hHeld ?_
                    simp only [Act.put, List.setIfInBounds_toArray, List.set_cons_zero, List.set_cons_succ]
                    refine take_op (i := 20) rfl (by kernel_rfl) (by kernel_rfl) (by kernel_rfl) (fun _ _ _ _ h => h) 100 rfl (.pointer (some ⟨gq, k1 * 7, none⟩)) (Or.inl ⟨by rfl, by intro w hSw; go_simp⟩) hHeld ?_
                    simp only [Act.put, List.setIfInBounds_toArray, List.set_cons_zero, List.set_cons_succ]
                    refine take_op (i := 21) rfl (by kernel_rfl) (by kernel_rfl) (by kernel_rfl) (fun _ _ _ _ h => h) 101 rfl (.pointer (some ⟨gq, k1 * 7 + 1, none⟩)) (Or.inl ⟨by rfl, by intro w hSw; go_simp⟩) hHeld ?_
                    simp only [Act.put, List.setIfInBounds_toArray, List.set_cons_zero, List.set_cons_succ]
                    refine take_op (i := 22) rfl (by kernel_rfl) (by kernel_rfl) (by kernel_rfl) (fun _ _ _ _ h => h) 102 rfl (.pointer (some ⟨gq, k1 * 7 + 1, none⟩)) (Or.inl ⟨by rfl, by intro w hSw; go_simp⟩) hHeld ?_
                    simp only [Act.put, List.setIfInBounds_toArray, List.set_cons_zero, List.set_cons_succ]
                    refine take_op (i := 23) rfl (by kernel_rfl) (by kernel_rfl) (by kernel_rfl) (fun _ _ _ _ h => h) 103 rfl (.string (mkB N9)) (Or.inl ⟨by rfl, by intro w hSw; have hc9 := HSB.out _ hSw; go_split_ands; go_simp⟩) hHeld ?_
                    simp only [Act.put, List.setIfInBounds_toArray, List.set_cons_zero, List.set_cons_succ]
                    refine take_op (i := 24) rfl (by kernel_rfl) (by kernel_rfl) (by kernel_rfl) (fun _ _ _ _ h => h) 104 rfl (.pointer (some ⟨b, 1, none⟩)) (Or.inl ⟨by rfl, by intro w hSw; go_simp⟩) hHeld ?_
                    simp only [Act.put, List.setIfInBounds_toArray, List.set_cons_zero, List.set_cons_succ]
                    refine take_op (i := 25) rfl (by kernel_rfl) (by kernel_rfl) (by kernel_rfl) (fun _ _ _ _ h => h) 105 rfl (.pointer (some ⟨b, 1, none⟩)) (Or.inl ⟨by rfl, by intro w hSw; go_simp⟩) hHeld ?_
                    simp only [Act.put, List.setIfInBounds_toArray, List.set_cons_zero, List.set_cons_succ]
                    refine take_op (i := 26) rfl (by kernel_rfl) (by kernel_rfl) (by kernel_rfl) (fun _ _ _ _ h => h) 106 rfl (.string (mkB X)) (Or.inl ⟨by rfl, by intro w hSw; have hc9 := HSB.out _ hSw; go_split_ands; go_simp⟩) hHeld ?_
                    simp only [Act.put, List.setIfInBounds_toArray, List.set_cons_zero, List.set_cons_succ]
                    refine take_op (i := 27) rfl (by kernel_rfl) (by kernel_rfl) (by kernel_rfl) (fun _ _ _ _ h => h) 107 rfl (.bool (!decide (N9 < X))) (Or.inl ⟨by rfl, by intro w hSw; have hbl9 := bl_dec N9 X; go_simp⟩) hHeld ?_
                    simp only [Act.put, List.setIfInBounds_toArray, List.set_cons_zero, List.set_cons_succ]
                    refine take_op (i := 28) rfl (by kernel_rfl) (by kernel_rfl) (by kernel_rfl) (fun _ _ _ _ h => h) 108 rfl (.bool (!decide (N9 < X))) (Or.inl ⟨by rfl, by intro w hSw; go_simp⟩) hHeld ?_
                    simp only [Act.put, List.setIfInBounds_toArray, List.set_cons_zero, List.set_cons_succ]
                    refine take_op (i := 29) rfl (by kernel_rfl) (by kernel_rfl) (by kernel_rfl) (fun _ _ _ _ h => h) 109 rfl (.bool (!decide (N9 < X))) (Or.inl ⟨by rfl, by intro w hSw; go_simp⟩) hHeld ?_
                    simp only [Act.put, List.setIfInBounds_toArray, List.set_cons_zero, List.set_cons_succ]
                    refine wpAnyH_done (by kernel_rfl) ?_ _
                    have HB12 : Hid (RdB w w12 R s8 (.slice ua ns.length uc) ns (.slice (some ⟨gq, 0, none⟩) P.length qc) P b #[.string ⟨#[]⟩, .string (mkB X), .int .i64 (m : Int), .int .u32 (c : Int), .int .i64 (p : Int), .int .i64 (z : Int), .int .i64 (a : Int)]) := HB11.out.below hch12
                    clear hch12 hHeld
                    go_wp2
                    go_meet
                    exact ⟨rfl, HB12.out⟩
                    --}R20L
            case rest =>
              obtain ⟨rfl, hBx⟩ := hcut
              have HBX : Hid (RdB w wc R s8 (.slice ua ns.length uc) ns (.slice qa P.length qc) P b #[.string ⟨#[]⟩, .string (mkB X), .int .i64 (m : Int), .int .u32 (c : Int), .int .i64 (p : Int), .int .i64 (z : Int), .int .i64 (a : Int)]) := hBx
              clear hBx HB11
              cases hbd : BD
              · have hAB : kk < ns.length ∧ isNm X = true ∧ notUp P X = false := by
                  have hx := HBD.out
                  rw [hbd] at hx
                  have hx2 : (decide (ns.length ≤ kk) || !isNm X || notUp P X) = false := hx.symm
                  simp only [Bool.or_eq_false_iff, decide_eq_false_iff_not, Bool.not_eq_false'] at hx2
                  exact ⟨Nat.lt_of_not_le hx2.1.1, hx2.1.2, hx2.2⟩
                obtain ⟨hkn, hnmX, hnuX⟩ := hAB
                obtain ⟨N, hN⟩ : ∃ N, ns[kk]? = some N := ⟨_, List.getElem?_eq_getElem hkn⟩
                obtain ⟨gu, hua, hcN⟩ : ∃ gu, ua = some ⟨gu, 0, none⟩ ∧ wc.cell? ⟨gu, kk, none⟩ = some (.string (mkB N)) := by
                  have hp := HBX.out.st.p
                  rcases hp.2 with ⟨h9, h10⟩ | ⟨g, cap, cur, hv, hb, hg, rest⟩
                  · omega
                  · injection hv with e1 e2 e3
                    have h9 := World.ownsRow.cells hp (g := g) (by rw [e1]; rfl) kk (.string (mkB N)) (by rw [tc, List.getElem?_map, hN]; rfl)
                    rw [add_plain] at h9
                    exact ⟨g, e1, h9⟩
                subst hua
                have HGO : Hid (s8.bad = false → rCh (n1 - (k + 1)) s8 ns (P ++ [⟨N, hdX X (m, c, p, z, a)⟩]) = rCh n1 s1 ns []) := fun hb9 => by
                  have q := HEC.out.2 hb9
                  have h9 := HRC.out
                  rw [show n1 - k = (n1 - (k + 1)) + 1 by omega, rCh, if_neg (by rw [h2]; simp), if_neg (by rw [HEC.out.1, hb9]; simp), q.1] at h9
                  simp only at h9
                  rw [if_neg (by rw [hnmX, hnuX]; simp; omega), q.2] at h9
                  simp only at h9
                  rw [List.getD_eq_getElem?_getD, hN] at h9
                  exact h9
                have HBA : Hid (s8.bad = true → RRead l = none) := fun hb8 => by
                  rw [HGOOD.out HS1B.out, ← HRC.out, show n1 - k = (n1 - (k + 1)) + 1 by omega, rCh, if_neg (by rw [h2]; simp), if_pos (by rw [HEC.out.1]; exact hb8)]
                have hkni : (kk : Int) < (ns.length : Int) := by omega
                have x0 := HBX.out.x0
                have b0 : wc.cell? ⟨b, 0, none⟩ = some (.string ⟨#[]⟩) := (HBX.out.at 0).trans rfl
                have fb0 := HBX.out.fz 0
                have hBs := HBX.out.set 0 (.string (mkB N))
                obtain ⟨W12, hWx⟩ : ∃ W12, W12 = wc.setCell ⟨b, 0, none⟩ (.string (mkB N)) := ⟨_, rfl⟩
                rw [← hWx] at hBs
                have HB12 : Hid (RdB w W12 R s8 (.slice (some ⟨gu, 0, none⟩) ns.length uc) ns (.slice qa P.length qc) P b #[.string (mkB N), .string (mkB X), .int .i64 (m : Int), .int .u32 (c : Int), .int .i64 (p : Int), .int .i64 (z : Int), .int .i64 (a : Int)]) := hBs
                clear hBs HBX hnmX hnuX HBD HEC HRC HGOOD HLOST
                have HKP : Hid (k = P.length) := hkP
                clear hN
                go_upto_region 23 with fail
                rw [← hWx]
                clear hWx x0 b0 fb0 hcN
                have x1 := HB12.out.x1
                have b0 : W12.cell? ⟨b, 0, none⟩ = some (.string (mkB N)) := (HB12.out.at 0).trans rfl
                have b1 : W12.cell? ⟨b, 1, none⟩ = some (.string (mkB X)) := (HB12.out.at 1).trans rfl
                have b2 : W12.cell? ⟨b, 2, none⟩ = some (.int .i64 (m : Int)) := (HB12.out.at 2).trans rfl
                have b3 : W12.cell? ⟨b, 3, none⟩ = some (.int .u32 (c : Int)) := (HB12.out.at 3).trans rfl
                have b4 : W12.cell? ⟨b, 4, none⟩ = some (.int .i64 (p : Int)) := (HB12.out.at 4).trans rfl
                have b5 : W12.cell? ⟨b, 5, none⟩ = some (.int .i64 (z : Int)) := (HB12.out.at 5).trans rfl
                have b6 : W12.cell? ⟨b, 6, none⟩ = some (.int .i64 (a : Int)) := (HB12.out.at 6).trans rfl
                have HRL : Hid (R + 2 < W12.heap.size) := HB12.out.st.lt
                have HX4 : Hid (∀ w4, W12.grownBy w4 (Value.slice qa P.length qc).ownBlock → w4.heap[R + 2]? = some (.cells #[.slice (some ⟨gu, 0, none⟩) ns.length uc, .slice qa P.length qc] 31 (0, 0))) := fun w4 hg => (hg.block (R + 2) HRL.out (fun e => row_ne HB12.out.st.q HB12.out.st.x (by decide) e.symm)).trans HB12.out.st.x
                go_wp2_with (at_builtin; refine append_pl rfl _ _ rfl R (.slice qa P.length qc) P ⟨N, hdX X (m, c, p, z, a)⟩ rfl rfl HB12.out.st.q (by omega) (by have := HRL.out; omega) ?_; intro a' c' w13 hO13 hg13; have q2 := HX4.out _ hg13; have q3 : w13.cell? ⟨R + 2, 1, none⟩ = some (.slice qa P.length qc) := (cell_of_row _ _ _ _ _ _ q2).trans rfl; have q4 : w13.frozen? ⟨R + 2, 1, none⟩ = false := frozen_of_row _ _ _ _ _ q2)
                have HS13 : Hid (RdS w (w13.setCell ⟨R + 2, 1, none⟩ (.slice a' (P.length + 1) c')) R s8 (.slice (some ⟨gu, 0, none⟩) ns.length uc) ns (.slice a' (P.length + 1) c') (P ++ [⟨N, hdX X (m, c, p, z, a)⟩])) := HB12.out.st.putq hO13 hg13
                have HLN : Hid ((P ++ [(⟨N, hdX X (m, c, p, z, a)⟩ : Pl)]).length = P.length + 1) := by unfold Hid; simp
                clear hO13 hg13 q2 q3 q4 x1 b0 b1 b2 b3 b4 b5 b6 HX4 HB12
                go_wp2
                go_roundw
                case rel =>
                  refine ⟨k + 1, s8, _, a', c', by omega, by go_num, by rw [HLN.out, ← HKP.out], by rw [HLN.out]; exact HS13.out, by omega, by rw [HLN.out]; omega, ?_⟩
                  cases hb9 : s8.bad with
                  | true => exact .inr ⟨rfl, HBA.out hb9⟩
                  | false => exact .inl ⟨rfl, HS1B.out, HGO.out hb9, by rw [HLN.out]; have := HLR.out hb9; omega⟩
                case measure => simp [intOf]; omega
              · have HNO : Hid (RRead l = none) := by
                  unfold Hid
                  rw [HGOOD.out HS1B.out, ← HRC.out, show n1 - k = (n1 - (k + 1)) + 1 by omega, rCh, if_neg (by rw [h2]; simp)]
                  by_cases hb8 : s8.bad = true
                  · rw [if_pos (by rw [HEC.out.1]; exact hb8)]
                  · have hb9 : s8.bad = false := by cases hq : s8.bad with | true => exact absurd hq hb8 | false => rfl
                    have q := HEC.out.2 hb9
                    rw [if_neg (by rw [HEC.out.1]; exact hb8), q.1]
                    rw [if_pos]
                    have hx := HBD.out
                    rw [hbd] at hx
                    have hx2 : (decide (ns.length ≤ kk) || !isNm X || notUp P X) = true := hx.symm
                    simp only [Bool.or_eq_true, decide_eq_true_eq, Bool.not_eq_true', or_assoc] at hx2
                    exact hx2
                have r0 := HBX.out.st.r
                have rc0 : wc.cell? ⟨R, 0, none⟩ = some (.slice none 0 0) := (cell_of_row _ _ _ _ _ _ r0).trans rfl
                have rc1 : wc.cell? ⟨R, 1, none⟩ = some (.slice none 0 0) := (cell_of_row _ _ _ _ _ _ r0).trans rfl
                have rf0 : wc.frozen? ⟨R, 0, none⟩ = false := frozen_of_row _ _ _ _ _ r0
                have rf1 : wc.frozen? ⟨R, 1, none⟩ = false := frozen_of_row _ _ _ _ _ r0
                clear r0 HRC HEC HGOOD HLOST HBD
                have HRR2 : Hid (Below w.heap.size w ((wc.setCell ⟨R, 0, none⟩ (.slice none 0 0)).setCell ⟨R, 1, none⟩ (.slice none 0 0))) := HBW.out _ ((HBX.out.st.bl.setCell (p := ⟨R, 0, none⟩) (Nat.le_refl _) _).setCell (p := ⟨R, 1, none⟩) (Nat.le_refl _) _)
                go_wp2
                exact bodyPost_ret (v := .tuple #[.agg #[.slice none 0 0, .slice none 0 0], .bool false]) (by simp [results, Try.results16, go_sem, *]) rfl ⟨.inr ⟨HNO.out, _, _, _, _, _, _, rfl⟩, HRR2.out⟩
          · have hz9 : (k = n1) ∨ (k < n1 ∧ s.bad = true) := by
              by_cases h : s.bad = false
              · left; rcases Nat.lt_or_ge k n1 with h2 | h2
                · exact absurd ⟨h2, h⟩ hgo
                · omega
              · have h3 : s.bad = true := by cases hb : s.bad with | true => rfl | false => exact absurd hb h
                rcases Nat.lt_or_ge k n1 with h2 | h2
                · exact .inr ⟨h2, h3⟩
                · left; omega
            have HFIN : Hid (RRead l = if s.bad = false ∧ s.rest = [] ∧ ns.Nodup then some (ns, P) else none) := by
              unfold Hid
              rcases HOR.out with ⟨h1, h2, h3, -⟩ | ⟨h1, h2⟩
              · have hkn : k = n1 := by
                  rcases hz9 with h | h
                  · exact h
                  · rw [h1] at h; cases h.2
                rw [HGOOD.out h2, ← h3, hkn, Nat.sub_self, rCh]
              · rw [h2, if_neg (by rw [h1]; simp)]
            have c0 := RC.c0 HS.out.c
            have x0 : wr.cell? ⟨R + 2, 0, none⟩ = some (.slice ua ns.length uc) := (cell_of_row _ _ _ _ _ _ HS.out.x).trans rfl
            have HRL : Hid (R + 2 < wr.heap.size) := HS.out.lt
            clear hgo HOR HGOOD HLOST hkP
            have HZ9 : Hid ((k = n1) ∨ (k < n1 ∧ s.bad = true)) := hz9
            clear hz9
            go_upto_region 10 with fail
            go_cut [49] (fun t wx => t = .bool false ∧ wx = wr)
            case first =>
              rcases HZ9.out with h9 | ⟨h8, h9⟩
              · subst h9
                go_wp2
                go_meet
                exact ⟨rfl, rfl⟩
              · have h7 : (k : Int) < (n1 : Int) := by omega
                rw [h9] at c1
                go_wp2
                go_meet
                exact ⟨rfl, rfl⟩
            case rest =>
              obtain ⟨rfl, hwc⟩ := hcut
              rw [hwc]
              clear hwc
              go_wp2_with fail
              go_loopw [126] (fun i wq => ∃ (j : Nat), j ≤ ns.length ∧ i = .int .i64 (j : Int) ∧ RdS w wq R s (.slice ua ns.length uc) ns (.slice qa P.length qc) P ∧ (∀ j' q, j' < j → ns[j']? = some q → ∀ i : Nat, i < j' → ns[i]? ≠ some q)) (fun i _ => ns.length - (intOf i).toNat)
              case atStart => exact ⟨0, Nat.zero_le _, rfl, HS.out, fun _ _ h => absurd h (Nat.not_lt_zero _)⟩
              case round =>
                obtain ⟨j, hj, rfl, hSq, hall⟩ := hrel
                have HSQ : Hid (RdS w wr R s (.slice ua ns.length uc) ns (.slice qa P.length qc) P) := hSq
                have HALL : Hid (∀ j' q, j' < j → ns[j']? = some q → ∀ i : Nat, i < j' → ns[i]? ≠ some q) := hall
                have y0 : wr.cell? ⟨R + 2, 0, none⟩ = some (.slice ua ns.length uc) := (cell_of_row _ _ _ _ _ _ hSq.x).trans rfl
                have y1 : wr.cell? ⟨R + 2, 1, none⟩ = some (.slice qa P.length qc) := (cell_of_row _ _ _ _ _ _ hSq.x).trans rfl
                clear hall c0 c1 x0 HRL HS
                by_cases hlt : j < ns.length
                · have hlti : (j : Int) < (ns.length : Int) := by omega
                  obtain ⟨N, hN⟩ : ∃ N, ns[j]? = some N := ⟨_, List.getElem?_eq_getElem hlt⟩
                  obtain ⟨g, o, hua, hgl, -, -, hcN⟩ := hSq.p.ts.at hN
                  have HNN : Hid (ns[j]? = some N) := hN
                  have HTS : Hid (TS wr (.slice ua ns.length uc) ns) := hSq.p.ts
                  clear hSq hN
                  subst hua
                  go_wp2_with fail
                  refine (numb_any _ qa P.length qc ns N wr HTS.out (by omega)).mono ?_
                  rintro e w5 ⟨zz, rfl, hNP, hb5⟩
                  have HS5 : Hid (RdS w w5 R s (.slice (some ⟨g, o, none⟩) ns.length uc) ns (.slice qa P.length qc) P) := HSQ.out.below hb5
                  obtain ⟨i, rfl, hi1, hi2⟩ : ∃ i : Nat, zz = (i : Int) ∧ ns[i]? = some N ∧ ∀ j : Nat, j < i → ns[j]? ≠ some N := by
                    rcases hNP with h | h
                    · exact h
                    · exact absurd HNN.out (h.2 j)
                  clear hNP hb5 y0 y1 hcN hgl HTS HSQ
                  by_cases hij : i = j
                  · have HA2 : Hid (∀ j' q, j' < j + 1 → ns[j']? = some q → ∀ i : Nat, i < j' → ns[i]? ≠ some q) := by
                      intro j' q h1 h2 i' h3
                      rcases Nat.lt_or_ge j' j with h4 | h4
                      · exact HALL.out j' q h4 h2 i' h3
                      · have h5 : j' = j := by omega
                        subst h5
                        rw [HNN.out] at h2
                        cases h2
                        exact hi2 i' (by omega)
                    subst hij
                    clear hi1 hi2 HALL HNN
                    go_wp2
                    go_roundw
                    case rel => exact ⟨i + 1, by omega, by go_num, HS5.out, HA2.out⟩
                    case measure => simp [intOf]; omega
                  · have HNO : Hid (RRead l = none) := by
                      unfold Hid
                      rw [HFIN.out, if_neg]
                      rintro ⟨-, -, h9⟩
                      exact not_nodup hij hi1 HNN.out h9
                    have hijn : (i == j) = false := by rw [beq_eq_false_iff_ne]; exact hij
                    have hiji : ((i : Int) == (j : Int)) = false := by rw [beq_eq_false_iff_ne]; omega
                    have hijd : decide ((i : Int) = (j : Int)) = false := decide_eq_false (by omega)
                    have r0 := HS5.out.r
                    have rc0 : w5.cell? ⟨R, 0, none⟩ = some (.slice none 0 0) := (cell_of_row _ _ _ _ _ _ r0).trans rfl
                    have rc1 : w5.cell? ⟨R, 1, none⟩ = some (.slice none 0 0) := (cell_of_row _ _ _ _ _ _ r0).trans rfl
                    have rf0 : w5.frozen? ⟨R, 0, none⟩ = false := frozen_of_row _ _ _ _ _ r0
                    have rf1 : w5.frozen? ⟨R, 1, none⟩ = false := frozen_of_row _ _ _ _ _ r0
                    have HRR2 : Hid (Below w.heap.size w ((w5.setCell ⟨R, 0, none⟩ (.slice none 0 0)).setCell ⟨R, 1, none⟩ (.slice none 0 0))) := HBW.out _ ((HS5.out.bl.setCell (p := ⟨R, 0, none⟩) (Nat.le_refl _) _).setCell (p := ⟨R, 1, none⟩) (Nat.le_refl _) _)
                    clear r0 hi1 hi2 HALL HNN HFIN
                    go_wp2
                    exact bodyPost_ret (v := .tuple #[.agg #[.slice none 0 0, .slice none 0 0], .bool false]) (by simp [results, Try.results16, go_sem, *]) rfl ⟨.inr ⟨HNO.out, _, _, _, _, _, _, rfl⟩, HRR2.out⟩
                · obtain rfl : j = ns.length := by omega
                  have HND : Hid ns.Nodup := nodup_of (fun j q h1 h2 => HALL.out j q h1 h2)
                  have HTS : Hid (TS wr (.slice ua ns.length uc) ns) := hSq.p.ts
                  have HE : Hid (TS ((wr.drew.setCell ⟨R, 0, none⟩ (.slice ua ns.length uc)).setCell ⟨R, 1, none⟩ (.slice qa P.length qc)) (.slice ua ns.length uc) ns ∧ PV ((wr.drew.setCell ⟨R, 0, none⟩ (.slice ua ns.length uc)).setCell ⟨R, 1, none⟩ (.slice qa P.length qc)) (.slice qa P.length qc) P ∧ Below w.heap.size w ((wr.drew.setCell ⟨R, 0, none⟩ (.slice ua ns.length uc)).setCell ⟨R, 1, none⟩ (.slice qa P.length qc))) := by
                    have hD := hSq.below ((Below.refl _ _).drew)
                    have so : ∀ b, b ≠ R → ((wr.drew.setCell ⟨R, 0, none⟩ (.slice ua ns.length uc)).setCell ⟨R, 1, none⟩ (.slice qa P.length qc)).heap[b]? = wr.drew.heap[b]? := fun b hb => (Below.heap_setCell _ _ _ _ hb).trans (Below.heap_setCell _ _ _ _ hb)
                    refine ⟨(hD.p.keptb (fun r hr' => so r (fun e => row_ne hD.p hD.r (by decide) (by rw [hr', e])))).ts, PlO.pv (ownsKept hD.q (fun r hr' => so r (fun e => row_ne hD.q hD.r (by decide) (by rw [hr', e])))), HBW.out _ ((hD.bl.setCell (p := ⟨R, 0, none⟩) (Nat.le_refl _) _).setCell (p := ⟨R, 1, none⟩) (Nat.le_refl _) _)⟩
                  have r0 := hSq.r
                  have rc0 : wr.cell? ⟨R, 0, none⟩ = some (.slice none 0 0) := (cell_of_row _ _ _ _ _ _ r0).trans rfl
                  have rc1 : wr.cell? ⟨R, 1, none⟩ = some (.slice none 0 0) := (cell_of_row _ _ _ _ _ _ r0).trans rfl
                  have rf0 : wr.frozen? ⟨R, 0, none⟩ = false := frozen_of_row _ _ _ _ _ r0
                  have rf1 : wr.frozen? ⟨R, 1, none⟩ = false := frozen_of_row _ _ _ _ _ r0
                  have c0 := RC.c0 hSq.c
                  have c1 := RC.c1 hSq.c
                  clear hSq HSQ HALL HTS r0
                  cases hb : s.bad
                  · rw [hb] at c1
                    by_cases hre : s.rest = []
                    · have HOK : Hid (RRead l = some (ns, P)) := by unfold Hid; rw [HFIN.out, if_pos ⟨hb, hre, HND.out⟩]
                      rw [hre] at c0
                      have c0' : wr.cell? ⟨R + 1, 0, none⟩ = some (.string ⟨#[]⟩) := c0
                      clear c0 HFIN hb hre
                      go_upto_region 30 with fail
                      go_region
                      all_goals
                        go_wp2
                        exact bodyPost_ret (v := .tuple #[.agg #[.slice ua ns.length uc, .slice qa P.length qc], .bool true]) (by simp [results, Try.results16, go_sem, *]) rfl ⟨.inl ⟨ns, P, _, _, HOK.out, rfl, HE.out.1, HE.out.2.1⟩, HE.out.2.2⟩
                    · have HNO : Hid (RRead l = none) := by unfold Hid; rw [HFIN.out, if_neg (fun h => hre h.2.1)]
                      have hrb : ((mkB s.rest).toList == (⟨#[]⟩ : ByteArray).toList) = false := by rw [show (⟨#[]⟩ : ByteArray) = mkB [] from rfl, mkB_beq]; exact decide_eq_false hre
                      have hrb4 : ¬ (mkB s.rest).toList = [] := by rw [mkB_toList]; exact hre
                      have hrb3 : decide (mkB s.rest = (⟨#[]⟩ : ByteArray)) = false := decide_eq_false (fun h => hre (mkB_one (b := []) h))
                      clear HFIN hb hre
                      go_upto_region 30 with fail
                      go_region
                      all_goals
                        go_wp2
                        exact bodyPost_ret (v := .tuple #[.agg #[.slice ua ns.length uc, .slice qa P.length qc], .bool false]) (by simp [results, Try.results16, go_sem, *]) rfl ⟨.inr ⟨HNO.out, _, _, _, _, _, _, rfl⟩, HE.out.2.2⟩
                  · rw [hb] at c1
                    have HNO : Hid (RRead l = none) := by unfold Hid; rw [HFIN.out, if_neg (fun h => by rw [hb] at h; cases h.1)]
                    clear HFIN hb
                    go_upto_region 30 with fail
                    go_region
                    all_goals
                      go_wp2
                      exact bodyPost_ret (v := .tuple #[.agg #[.slice ua ns.length uc, .slice qa P.length qc], .bool false]) (by simp [results, Try.results16, go_sem, *]) rfl ⟨.inr ⟨HNO.out, _, _, _, _, _, _, rfl⟩, HE.out.2.2⟩
end Go.Proofs.Ytpfjcdfhlcnlcaa
