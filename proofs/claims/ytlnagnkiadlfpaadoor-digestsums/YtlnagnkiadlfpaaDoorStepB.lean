/- The document's step: contract. -/
import Derived.Test.YtlnagnkiadlfpaaDoorStepA
import Derived.Test.YtlnagnkiadlfpaaDoorArmH
import Derived.Deep.DeepCutAuto
namespace Go.Proofs.YtlnagnkiadlfpaaDoor
open Go.RowKit
set_option linter.unusedVariables false

set_option maxRecDepth 100000 in
set_option maxHeartbeats 4000000 in
theorem step_any (g cap : Nat) (s : S8) (k x : Nat) (w : World) (hs : s.ok) (hv : WordsAt w g s.list) (hg : g < w.heap.size) :
    Calls Tryd.prog 17 #[.slice (some ⟨g, 0, none⟩) 8 cap, .agg (bw (bt k)), .agg (bw (bt x))] w fun e w' => ∃ g', e = .returned (.slice (some ⟨g', 0, none⟩) 8 8) ∧ w.heap.size ≤ g' ∧ g' < w'.heap.size ∧ WordsAt w' g' (rnd s k x).list ∧ Below w.heap.size w w' := by
  have hz := (zero_of_info Tryd.zeroW).1
  have HN : Hid (_ = _) := zw_bc
  have HST : Hid (ST w k x (fun _ => false) (fun _ => false) (w4z w (bw (bt k)) (bw (bt x)))) := ST.start w k x
  have H2 : Hid ((w4 w (bw (bt k)) (bw (bt x)) zw zw).heap[w.heap.size + 1 + 1]? = some (.cells zw 33 (0, 0))) := w4_2 w _ _ _ _
  have H3 : Hid (((w4 w (bw (bt k)) (bw (bt x)) zw zw).setRow (w.heap.size + 1 + 1) (bw fun _ => false)).heap[w.heap.size + 1 + 1 + 1]? = some (.cells zw 33 (0, 0))) := by
    unfold Hid
    rw [setRow_other _ _ _ _ (by omega)]; exact w4_3 w _ _ _ _
  have HV : Hid (WordsAt w g s.list) := hv
  clear hv
  go_enter Tryd.func17, Tryd.ntmps17
  go_wp2_with (first | refine wpList_store_row rfl 33 _ _ rfl (w.heap.size + 1 + 1) (bw fun _ => false) rfl (congrArg Value.agg HN.out) 33 zw H2.out (iW _) (by rw [HN.out]) (bw_one _) ?_ | refine wpList_store_row rfl 33 _ _ rfl (w.heap.size + 1 + 1 + 1) (bw fun _ => false) rfl (congrArg Value.agg HN.out) 33 zw H3.out (iW _) (by rw [HN.out]) (bw_one _) ?_)
  change Code.wp _ _ _ _ (w4z w (bw (bt k)) (bw (bt x)))
  generalize w4z w (bw (bt k)) (bw (bt x)) = W0 at *
  clear hz H2 H3
  go_loopw [14] (fun i wr => ∃ m : Nat, m ≤ 32 ∧ i = .int .i64 (m : Int) ∧ ST w k x (tkF (chF s) m) (tkF (mjF s) m) wr) (fun i _ => 32 - (intOf i).toNat)
  case atStart => exact ⟨0, by omega, rfl, by rw [tkF_zero, tkF_zero]; exact HST.out⟩
  case round =>
    clear HST
    obtain ⟨m, hm, rfl, hW⟩ := hrel
    by_cases hlt : m < 32
    · have HV1 := HV.out.below hW.2.2.2.2 hg
      have c0 : wr.cell? ⟨g, m, none⟩ = some (.bool (bt s.a m)) := by
        have := words_cell HV1 0 m (show 0 < 8 by decide) hlt
        rw [Nat.zero_mul, Nat.zero_add] at this
        exact this
      have c1 : wr.cell? ⟨g, 32 + m, none⟩ = some (.bool (bt s.b m)) := words_cell HV1 1 m (show 1 < 8 by decide) hlt
      have c2 : wr.cell? ⟨g, 64 + m, none⟩ = some (.bool (bt s.c m)) := words_cell HV1 2 m (show 2 < 8 by decide) hlt
      have c4 : wr.cell? ⟨g, 128 + m, none⟩ = some (.bool (bt s.e m)) := words_cell HV1 4 m (show 4 < 8 by decide) hlt
      have c5 : wr.cell? ⟨g, 160 + m, none⟩ = some (.bool (bt s.f m)) := words_cell HV1 5 m (show 5 < 8 by decide) hlt
      have c6 : wr.cell? ⟨g, 192 + m, none⟩ = some (.bool (bt s.g m)) := words_cell HV1 6 m (show 6 < 8 by decide) hlt
      have d1 : wr.cell? ⟨w.heap.size + 1 + 1, m, none⟩ = some (.bool (tkF (chF s) m m)) := by rw [cell_of_row _ _ _ _ _ _ hW.2.2.1, bw_at _ _ hlt]
      have d2 : wr.cell? ⟨w.heap.size + 1 + 1 + 1, m, none⟩ = some (.bool (tkF (mjF s) m m)) := by rw [cell_of_row _ _ _ _ _ _ hW.2.2.2.1, bw_at _ _ hlt]
      have f1 : wr.frozen? ⟨w.heap.size + 1 + 1, m, none⟩ = false := frozen_of_row _ _ _ _ _ hW.2.2.1
      have f2 : wr.frozen? ⟨w.heap.size + 1 + 1 + 1, m, none⟩ = false := frozen_of_row _ _ _ _ _ hW.2.2.2.1
      have n1 : g ≠ w.heap.size + 1 + 1 := by omega
      have n2 : w.heap.size + 1 + 1 ≠ g := by omega
      have HS : Hid (∀ u v, u = chF s m → v = mjF s m → ST w k x (tkF (chF s) (m + 1)) (tkF (mjF s) (m + 1)) ((wr.setCell ⟨w.heap.size + 1 + 1, m, none⟩ (.bool u)).setCell ⟨w.heap.size + 1 + 1 + 1, m, none⟩ (.bool v))) := fun u v hu hv => by
        rw [hu, hv]; exact (hW.store m _ _).congr (tkF_step _ m) (tkF_step _ m)
      have HC : Hid (chF s m = (bt s.e m && bt s.f m || !bt s.e m && bt s.g m)) := rfl
      have HM : Hid (mjF s m = (bt s.a m && bt s.b m || bt s.a m && bt s.c m || bt s.b m && bt s.c m)) := rfl
      have hml : (m : Int) < 32 := by omega
      clear hW HV1
      generalize bt s.a m = b0 at *
      generalize bt s.b m = b1 at *
      generalize bt s.c m = b2 at *
      generalize bt s.e m = b4 at *
      generalize bt s.f m = b5 at *
      generalize bt s.g m = b6 at *
      have FIN : ∀ u v, u = chF s m → v = mjF s m → (∃ m_1 : Nat, m_1 ≤ 32 ∧ Value.int IntKind.i64 ((m : Int) + 1) = Value.int IntKind.i64 (m_1 : Int) ∧ ST w k x (tkF (chF s) m_1) (tkF (mjF s) m_1) ((wr.setCell ⟨w.heap.size + 1 + 1, m, none⟩ (.bool u)).setCell ⟨w.heap.size + 1 + 1 + 1, m, none⟩ (.bool v))) ∧ 32 - (intOf (Value.int IntKind.i64 ((m : Int) + 1))).toNat < 32 - (intOf (Value.int IntKind.i64 (m : Int))).toNat :=
        fun u v hu hv => ⟨⟨m + 1, by omega, by go_num, HS.out u v hu hv⟩, by simp [intOf]; omega⟩
      have FIN' : Hid _ := FIN
      clear FIN HS
      cases b4
      · cases b6 <;> cases b0 <;> cases b1 <;> cases b2
        all_goals
          go_wp2
          exact FIN'.out _ _ (by rw [HC.out]; simp) (by rw [HM.out]; simp)
      · cases b5 <;> cases b0 <;> cases b1 <;> cases b2
        all_goals
          go_wp2
          exact FIN'.out _ _ (by rw [HC.out]; simp) (by rw [HM.out]; simp)
    · have hme : m = 32 := by omega
      subst hme
      have hW1 := hW.congr (gc := bt (cho s.e s.f s.g)) (gm := bt (maj s.a s.b s.c)) ((tkF_end _).trans (congrArg List.toArray (chF_eq s hs))) ((tkF_end _).trans (congrArg List.toArray (mjF_eq s)))
      have HW : Hid (ST w k x (bt (cho s.e s.f s.g)) (bt (maj s.a s.b s.c)) wr) := hW1
      clear hW hW1
      have he := hs.2.2.2.2.1
      have HSR : Hid (SR w g s k x (cho s.e s.f s.g) (maj s.a s.b s.c) wr) := ⟨HV.out.below HW.out.2.2.2.2 hg, HW.out, hg⟩
      have H6 : Hid (∀ W : World, Calls Tryd.prog 16 #[.agg (bl (bt s.e)).toArray, .int .i64 6, .int .i64 11, .int .i64 25, .bool false] W fun e w' => e = .returned (.agg (bl (bt (bg1 s.e))).toArray) ∧ Below W.heap.size W w') := fun W => turns_n s.e 6 11 25 W he (by decide) (by decide) (by decide) (by decide) (by decide) (by decide)
      have HT : Hid (sumW [s.h, bg1 s.e, cho s.e s.f s.g, k, x] = tof s k x) := by unfold Hid; rw [sum5]; rfl
      have ha := hs.1
      have H2 : Hid (∀ W : World, Calls Tryd.prog 16 #[.agg (bl (bt s.a)).toArray, .int .i64 2, .int .i64 13, .int .i64 22, .bool false] W fun e w' => e = .returned (.agg (bl (bt (bg0 s.a))).toArray) ∧ Below W.heap.size W w') := fun W => turns_n s.a 2 13 22 W ha (by decide) (by decide) (by decide) (by decide) (by decide) (by decide)
      have HU : Hid (sumW [bg0 s.a, maj s.a s.b s.c] = uof s) := by unfold Hid; rw [sum2]; rfl
      have HA : Hid (sumW [tof s k x, uof s] = (rnd s k x).a) := by unfold Hid; rw [sum2]; rfl
      have HEE : Hid (sumW [s.d, tof s k x] = (rnd s k x).e) := by unfold Hid; rw [sum2]; rfl
      have HLL : Hid ((rnd s k x).list = [(rnd s k x).a, s.a, s.b, s.c, (rnd s k x).e, s.e, s.f, s.g]) := rfl
      generalize (rnd s k x).a = NA at *
      generalize (rnd s k x).e = NE at *
      generalize uof s = UU at *
      generalize bg0 s.a = BA at *
      generalize cho s.e s.f s.g = CH at *
      generalize maj s.a s.b s.c = MJ at *
      generalize tof s k x = TT at *
      generalize bg1 s.e = BG at *
      clear HW
      go_upto_region 8 with fail
      go_cut [10] (fun p wx => ∃ D, p = .pointer (some ⟨D, 0, none⟩) ∧ wx.heap[D]? = some (.cells (bw (bt TT)) 33 (0, 0)) ∧ w.heap.size + 1 + 1 + 1 < D ∧ SR w g s k x CH MJ wx)
      case first =>
        refine wp_region_held_drew (S := SR w g s k x CH MJ) (by kernel_rfl) HSR.out.drew (fun hHeld => ?_)
        change wpAnyH _ _ _ _ _ 14 (Array.replicate 14 false) _ _
        refine take_op (i := 0) rfl (by kernel_rfl) (by kernel_rfl) (by kernel_rfl) (fun _ _ _ _ h => h) 89 rfl (.slice (some ⟨g, 0, none⟩) 8 cap) (Or.inl ⟨by rfl, by intro w hSw; go_simp⟩) hHeld ?_
        simp only [Act.put, List.setIfInBounds_toArray, List.set_cons_zero, List.set_cons_succ]
        refine take_op (i := 1) rfl (by kernel_rfl) (by kernel_rfl) (by kernel_rfl) (fun _ _ _ _ h => h) 90 rfl (.pointer (some ⟨g, 224, none⟩)) (Or.inl ⟨by rfl, by intro w hSw; go_simp⟩) hHeld ?_
        simp only [Act.put, List.setIfInBounds_toArray, List.set_cons_zero, List.set_cons_succ]
        refine take_load (i := 2) rfl (by kernel_rfl) (by kernel_rfl) (by kernel_rfl) (fun _ _ _ _ h => h) rfl 91 rfl _ rfl (g) 224 rfl (bt s.h) (fun W h => h.at 7 _ _ (by decide) rfl rfl) hHeld ?_
        simp only [Act.put, List.setIfInBounds_toArray, List.set_cons_zero, List.set_cons_succ]
        refine take_op (i := 3) rfl (by kernel_rfl) (by kernel_rfl) (by kernel_rfl) (fun _ _ _ _ h => h) 92 rfl (.slice (some ⟨g, 0, none⟩) 8 cap) (Or.inl ⟨by rfl, by intro w hSw; go_simp⟩) hHeld ?_
        simp only [Act.put, List.setIfInBounds_toArray, List.set_cons_zero, List.set_cons_succ]
        refine take_op (i := 4) rfl (by kernel_rfl) (by kernel_rfl) (by kernel_rfl) (fun _ _ _ _ h => h) 93 rfl (.pointer (some ⟨g, 128, none⟩)) (Or.inl ⟨by rfl, by intro w hSw; go_simp⟩) hHeld ?_
        simp only [Act.put, List.setIfInBounds_toArray, List.set_cons_zero, List.set_cons_succ]
        refine take_load (i := 5) rfl (by kernel_rfl) (by kernel_rfl) (by kernel_rfl) (fun _ _ _ _ h => h) rfl 94 rfl _ rfl (g) 128 rfl (bt s.e) (fun W h => h.at 4 _ _ (by decide) rfl rfl) hHeld ?_
        simp only [Act.put, List.setIfInBounds_toArray, List.set_cons_zero, List.set_cons_succ]
        refine take_load (i := 7) rfl (by kernel_rfl) (by kernel_rfl) (by kernel_rfl) (fun _ _ _ _ h => h) rfl 96 rfl _ rfl (w.heap.size + 1 + 1) 0 rfl (bt CH) (fun W h => range_row h.2.1.2.2.1) hHeld ?_
        simp only [Act.put, List.setIfInBounds_toArray, List.set_cons_zero, List.set_cons_succ]
        refine take_load (i := 8) rfl (by kernel_rfl) (by kernel_rfl) (by kernel_rfl) (fun _ _ _ _ h => h) rfl 97 rfl _ rfl (w.heap.size) 0 rfl (bt k) (fun W h => range_row h.2.1.1) hHeld ?_
        simp only [Act.put, List.setIfInBounds_toArray, List.set_cons_zero, List.set_cons_succ]
        refine take_load (i := 9) rfl (by kernel_rfl) (by kernel_rfl) (by kernel_rfl) (fun _ _ _ _ h => h) rfl 98 rfl _ rfl (w.heap.size + 1) 0 rfl (bt x) (fun W h => range_row h.2.1.2.1) hHeld ?_
        simp only [Act.put, List.setIfInBounds_toArray, List.set_cons_zero, List.set_cons_succ]
        refine wpAnyH_ready (rs := [6, 12]) (by kernel_rfl) (by simp) ?_
        refine AllReadyH.cons rfl (fun K hK => ?_) (AllReadyH.cons rfl (fun K hK => ?_) AllReadyH.nil)
        · refine arm_call hK rfl (some 95) rfl 16 #[.agg (bl (bt s.e)).toArray, .int .i64 6, .int .i64 11, .int .i64 25, .bool false] (by intro w; go_simp) (H6.out _) ?_
          intro w1 hb1
          refine ⟨hHeld.next hb1, fun hHeld => ?_⟩
          clear hK
          try have hD := keepBlock hb1 hD
          simp only [Act.put, List.setIfInBounds_toArray, List.set_cons_zero, List.set_cons_succ]
          refine wpAnyH_ready (rs := [10, 12]) (by kernel_rfl) (by simp) ?_
          refine AllReadyH.cons rfl (fun K hK => ?_) (AllReadyH.cons rfl (fun K hK => ?_) AllReadyH.nil)
          · refine arm_build hK rfl 99 rfl 5 _ rfl [s.h, BG, CH, k, x] rfl (by decide) (by decide) (by first | rfl | go_simp) ?_
            intro w2 nw
            refine ⟨hHeld.next nw.bel, fun hHeld => ?_⟩
            clear hK
            have hE : WordsIn w2 _ [s.h, BG, CH, k, x] := ⟨nw.at', by rw [nw.size]; omega⟩
            try have hD := keepBlock nw.bel hD
            simp only [Act.put, List.setIfInBounds_toArray, List.set_cons_zero, List.set_cons_succ]
            refine wpAnyH_ready (rs := [11, 12]) (by kernel_rfl) (by simp) ?_
            refine AllReadyH.cons rfl (fun K hK => ?_) (AllReadyH.cons rfl (fun K hK => ?_) AllReadyH.nil)
            · refine arm_call hK rfl (some 100) rfl 15 #[.slice (some ⟨_, 0, none⟩) 5 5] (by intro w; go_simp) (add_n _ 5 5 _ (TT) _ hE rfl (by decide) HT.out) ?_
              intro w3 hb3
              refine ⟨hHeld.next hb3, fun hHeld => ?_⟩
              clear hK
              try have hD := keepBlock hb3 hD
              simp only [Act.put, List.setIfInBounds_toArray, List.set_cons_zero, List.set_cons_succ]
              refine wpAnyH_ready (rs := [12]) (by kernel_rfl) (by simp) ?_
              refine AllReadyH.cons rfl (fun K hK => ?_) AllReadyH.nil
              have hDl := hHeld.lt
              refine arm_new hK rfl 10 rfl rfl (hHeld.next (bel_new _ _)) (fun hHeld hD hbN => ?_)
              clear hK
              try have hE := keepWords hbN hE
              simp only [Act.put, List.setIfInBounds_toArray, List.set_cons_zero, List.set_cons_succ]
              refine wpAnyH_ready (rs := [13]) (by kernel_rfl) (by simp) ?_
              refine AllReadyH.cons rfl (fun K hK => ?_) AllReadyH.nil
              refine arm_store hK rfl rfl _ _ rfl _ (bt (TT)) (by rfl) (by rfl) _ hD (hHeld.set hDl _) (fun hHeld => ?_)
              clear hK
              have hF := set_at (bt (TT)) hD
              refine wpAnyH_done (by kernel_rfl) ?_ _
              go_wp2
              go_meet
              exact ⟨_, rfl, hF, hDl, hHeld⟩
            · have hDl := hHeld.lt
              refine arm_new hK rfl 10 rfl rfl (hHeld.next (bel_new _ _)) (fun hHeld hD hbN => ?_)
              clear hK
              try have hE := keepWords hbN hE
              simp only [Act.put, List.setIfInBounds_toArray, List.set_cons_zero, List.set_cons_succ]
              refine wpAnyH_ready (rs := [11]) (by kernel_rfl) (by simp) ?_
              refine AllReadyH.cons rfl (fun K hK => ?_) AllReadyH.nil
              refine arm_call hK rfl (some 100) rfl 15 #[.slice (some ⟨_, 0, none⟩) 5 5] (by intro w; go_simp) (add_n _ 5 5 _ (TT) _ hE rfl (by decide) HT.out) ?_
              intro w3 hb3
              refine ⟨hHeld.next hb3, fun hHeld => ?_⟩
              clear hK
              try have hD := keepBlock hb3 hD
              simp only [Act.put, List.setIfInBounds_toArray, List.set_cons_zero, List.set_cons_succ]
              refine wpAnyH_ready (rs := [13]) (by kernel_rfl) (by simp) ?_
              refine AllReadyH.cons rfl (fun K hK => ?_) AllReadyH.nil
              refine arm_store hK rfl rfl _ _ rfl _ (bt (TT)) (by rfl) (by rfl) _ hD (hHeld.set hDl _) (fun hHeld => ?_)
              clear hK
              have hF := set_at (bt (TT)) hD
              refine wpAnyH_done (by kernel_rfl) ?_ _
              go_wp2
              go_meet
              exact ⟨_, rfl, hF, hDl, hHeld⟩
          · have hDl := hHeld.lt
            refine arm_new hK rfl 10 rfl rfl (hHeld.next (bel_new _ _)) (fun hHeld hD hbN => ?_)
            clear hK
            try have hE := keepWords hbN hE
            simp only [Act.put, List.setIfInBounds_toArray, List.set_cons_zero, List.set_cons_succ]
            refine wpAnyH_ready (rs := [10]) (by kernel_rfl) (by simp) ?_
            refine AllReadyH.cons rfl (fun K hK => ?_) AllReadyH.nil
            refine arm_build hK rfl 99 rfl 5 _ rfl [s.h, BG, CH, k, x] rfl (by decide) (by decide) (by first | rfl | go_simp) ?_
            intro w2 nw
            refine ⟨hHeld.next nw.bel, fun hHeld => ?_⟩
            clear hK
            have hE : WordsIn w2 _ [s.h, BG, CH, k, x] := ⟨nw.at', by rw [nw.size]; omega⟩
            try have hD := keepBlock nw.bel hD
            simp only [Act.put, List.setIfInBounds_toArray, List.set_cons_zero, List.set_cons_succ]
            refine wpAnyH_ready (rs := [11]) (by kernel_rfl) (by simp) ?_
            refine AllReadyH.cons rfl (fun K hK => ?_) AllReadyH.nil
            refine arm_call hK rfl (some 100) rfl 15 #[.slice (some ⟨_, 0, none⟩) 5 5] (by intro w; go_simp) (add_n _ 5 5 _ (TT) _ hE rfl (by decide) HT.out) ?_
            intro w3 hb3
            refine ⟨hHeld.next hb3, fun hHeld => ?_⟩
            clear hK
            try have hD := keepBlock hb3 hD
            simp only [Act.put, List.setIfInBounds_toArray, List.set_cons_zero, List.set_cons_succ]
            refine wpAnyH_ready (rs := [13]) (by kernel_rfl) (by simp) ?_
            refine AllReadyH.cons rfl (fun K hK => ?_) AllReadyH.nil
            refine arm_store hK rfl rfl _ _ rfl _ (bt (TT)) (by rfl) (by rfl) _ hD (hHeld.set hDl _) (fun hHeld => ?_)
            clear hK
            have hF := set_at (bt (TT)) hD
            refine wpAnyH_done (by kernel_rfl) ?_ _
            go_wp2
            go_meet
            exact ⟨_, rfl, hF, hDl, hHeld⟩
        · have hDl := hHeld.lt
          refine arm_new hK rfl 10 rfl rfl (hHeld.next (bel_new _ _)) (fun hHeld hD hbN => ?_)
          clear hK
          try have hE := keepWords hbN hE
          simp only [Act.put, List.setIfInBounds_toArray, List.set_cons_zero, List.set_cons_succ]
          refine wpAnyH_ready (rs := [6]) (by kernel_rfl) (by simp) ?_
          refine AllReadyH.cons rfl (fun K hK => ?_) AllReadyH.nil
          refine arm_call hK rfl (some 95) rfl 16 #[.agg (bl (bt s.e)).toArray, .int .i64 6, .int .i64 11, .int .i64 25, .bool false] (by intro w; go_simp) (H6.out _) ?_
          intro w1 hb1
          refine ⟨hHeld.next hb1, fun hHeld => ?_⟩
          clear hK
          try have hD := keepBlock hb1 hD
          simp only [Act.put, List.setIfInBounds_toArray, List.set_cons_zero, List.set_cons_succ]
          refine wpAnyH_ready (rs := [10]) (by kernel_rfl) (by simp) ?_
          refine AllReadyH.cons rfl (fun K hK => ?_) AllReadyH.nil
          refine arm_build hK rfl 99 rfl 5 _ rfl [s.h, BG, CH, k, x] rfl (by decide) (by decide) (by first | rfl | go_simp) ?_
          intro w2 nw
          refine ⟨hHeld.next nw.bel, fun hHeld => ?_⟩
          clear hK
          have hE : WordsIn w2 _ [s.h, BG, CH, k, x] := ⟨nw.at', by rw [nw.size]; omega⟩
          try have hD := keepBlock nw.bel hD
          simp only [Act.put, List.setIfInBounds_toArray, List.set_cons_zero, List.set_cons_succ]
          refine wpAnyH_ready (rs := [11]) (by kernel_rfl) (by simp) ?_
          refine AllReadyH.cons rfl (fun K hK => ?_) AllReadyH.nil
          refine arm_call hK rfl (some 100) rfl 15 #[.slice (some ⟨_, 0, none⟩) 5 5] (by intro w; go_simp) (add_n _ 5 5 _ (TT) _ hE rfl (by decide) HT.out) ?_
          intro w3 hb3
          refine ⟨hHeld.next hb3, fun hHeld => ?_⟩
          clear hK
          try have hD := keepBlock hb3 hD
          simp only [Act.put, List.setIfInBounds_toArray, List.set_cons_zero, List.set_cons_succ]
          refine wpAnyH_ready (rs := [13]) (by kernel_rfl) (by simp) ?_
          refine AllReadyH.cons rfl (fun K hK => ?_) AllReadyH.nil
          refine arm_store hK rfl rfl _ _ rfl _ (bt (TT)) (by rfl) (by rfl) _ hD (hHeld.set hDl _) (fun hHeld => ?_)
          clear hK
          have hF := set_at (bt (TT)) hD
          refine wpAnyH_done (by kernel_rfl) ?_ _
          go_wp2
          go_meet
          exact ⟨_, rfl, hF, hDl, hHeld⟩
      case rest =>
        obtain ⟨D1, rfl, hD1, hl1, hS⟩ := hcut
        have HSX : Hid (SX w g s k x CH MJ D1 TT _) := ⟨hS, hD1, hl1⟩
        clear hS hD1 hl1 HSR H6 HT
        go_upto_region 9 with fail
        go_cut [11] (fun p wx => ∃ D, p = .pointer (some ⟨D, 0, none⟩) ∧ wx.heap[D]? = some (.cells (bw (bt UU)) 33 (0, 0)) ∧ SX w g s k x CH MJ D1 TT wx)
        case first =>
          refine wp_region_held_drew (S := SX w g s k x CH MJ D1 TT) (by kernel_rfl) HSX.out.drew (fun hHeld => ?_)
          change wpAnyH _ _ _ _ _ 9 (Array.replicate 9 false) _ _
          refine take_op (i := 0) rfl (by kernel_rfl) (by kernel_rfl) (by kernel_rfl) (fun _ _ _ _ h => h) 101 rfl (.slice (some ⟨g, 0, none⟩) 8 cap) (Or.inl ⟨by rfl, by intro w hSw; go_simp⟩) hHeld ?_
          simp only [Act.put, List.setIfInBounds_toArray, List.set_cons_zero, List.set_cons_succ]
          refine take_op (i := 1) rfl (by kernel_rfl) (by kernel_rfl) (by kernel_rfl) (fun _ _ _ _ h => h) 102 rfl (.pointer (some ⟨g, 0, none⟩)) (Or.inl ⟨by rfl, by intro w hSw; go_simp⟩) hHeld ?_
          simp only [Act.put, List.setIfInBounds_toArray, List.set_cons_zero, List.set_cons_succ]
          refine take_load (i := 2) rfl (by kernel_rfl) (by kernel_rfl) (by kernel_rfl) (fun _ _ _ _ h => h) rfl 103 rfl _ rfl (g) 0 rfl (bt s.a) (fun W h => h.1.at 0 _ _ (by decide) rfl rfl) hHeld ?_
          simp only [Act.put, List.setIfInBounds_toArray, List.set_cons_zero, List.set_cons_succ]
          refine take_load (i := 4) rfl (by kernel_rfl) (by kernel_rfl) (by kernel_rfl) (fun _ _ _ _ h => h) rfl 105 rfl _ rfl (w.heap.size + 1 + 1 + 1) 0 rfl (bt MJ) (fun W h => range_row h.1.2.1.2.2.2.1) hHeld ?_
          simp only [Act.put, List.setIfInBounds_toArray, List.set_cons_zero, List.set_cons_succ]
          refine wpAnyH_ready (rs := [3, 7]) (by kernel_rfl) (by simp) ?_
          refine AllReadyH.cons rfl (fun K hK => ?_) (AllReadyH.cons rfl (fun K hK => ?_) AllReadyH.nil)
          · refine arm_call hK rfl (some 104) rfl 16 #[.agg (bl (bt s.a)).toArray, .int .i64 2, .int .i64 13, .int .i64 22, .bool false] (by intro w; go_simp) (H2.out _) ?_
            intro w1 hb1
            refine ⟨hHeld.next hb1, fun hHeld => ?_⟩
            clear hK
            try have hD := keepBlock hb1 hD
            simp only [Act.put, List.setIfInBounds_toArray, List.set_cons_zero, List.set_cons_succ]
            refine wpAnyH_ready (rs := [5, 7]) (by kernel_rfl) (by simp) ?_
            refine AllReadyH.cons rfl (fun K hK => ?_) (AllReadyH.cons rfl (fun K hK => ?_) AllReadyH.nil)
            · refine arm_build hK rfl 106 rfl 2 _ rfl [BA, MJ] rfl (by decide) (by decide) (by first | rfl | go_simp) ?_
              intro w2 nw
              refine ⟨hHeld.next nw.bel, fun hHeld => ?_⟩
              clear hK
              have hE : WordsIn w2 _ [BA, MJ] := ⟨nw.at', by rw [nw.size]; omega⟩
              try have hD := keepBlock nw.bel hD
              simp only [Act.put, List.setIfInBounds_toArray, List.set_cons_zero, List.set_cons_succ]
              refine wpAnyH_ready (rs := [6, 7]) (by kernel_rfl) (by simp) ?_
              refine AllReadyH.cons rfl (fun K hK => ?_) (AllReadyH.cons rfl (fun K hK => ?_) AllReadyH.nil)
              · refine arm_call hK rfl (some 107) rfl 15 #[.slice (some ⟨_, 0, none⟩) 2 2] (by intro w; go_simp) (add_n _ 2 2 _ (UU) _ hE rfl (by decide) HU.out) ?_
                intro w3 hb3
                refine ⟨hHeld.next hb3, fun hHeld => ?_⟩
                clear hK
                try have hD := keepBlock hb3 hD
                simp only [Act.put, List.setIfInBounds_toArray, List.set_cons_zero, List.set_cons_succ]
                refine wpAnyH_ready (rs := [7]) (by kernel_rfl) (by simp) ?_
                refine AllReadyH.cons rfl (fun K hK => ?_) AllReadyH.nil
                have hDl := hHeld.lt
                refine arm_new hK rfl 11 rfl rfl (hHeld.next (bel_new _ _)) (fun hHeld hD hbN => ?_)
                clear hK
                try have hE := keepWords hbN hE
                simp only [Act.put, List.setIfInBounds_toArray, List.set_cons_zero, List.set_cons_succ]
                refine wpAnyH_ready (rs := [8]) (by kernel_rfl) (by simp) ?_
                refine AllReadyH.cons rfl (fun K hK => ?_) AllReadyH.nil
                refine arm_store hK rfl rfl _ _ rfl _ (bt (UU)) (by rfl) (by rfl) _ hD (hHeld.set hDl _) (fun hHeld => ?_)
                clear hK
                have hF := set_at (bt (UU)) hD
                refine wpAnyH_done (by kernel_rfl) ?_ _
                go_wp2
                go_meet
                exact ⟨_, rfl, hF, hHeld⟩
              · have hDl := hHeld.lt
                refine arm_new hK rfl 11 rfl rfl (hHeld.next (bel_new _ _)) (fun hHeld hD hbN => ?_)
                clear hK
                try have hE := keepWords hbN hE
                simp only [Act.put, List.setIfInBounds_toArray, List.set_cons_zero, List.set_cons_succ]
                refine wpAnyH_ready (rs := [6]) (by kernel_rfl) (by simp) ?_
                refine AllReadyH.cons rfl (fun K hK => ?_) AllReadyH.nil
                refine arm_call hK rfl (some 107) rfl 15 #[.slice (some ⟨_, 0, none⟩) 2 2] (by intro w; go_simp) (add_n _ 2 2 _ (UU) _ hE rfl (by decide) HU.out) ?_
                intro w3 hb3
                refine ⟨hHeld.next hb3, fun hHeld => ?_⟩
                clear hK
                try have hD := keepBlock hb3 hD
                simp only [Act.put, List.setIfInBounds_toArray, List.set_cons_zero, List.set_cons_succ]
                refine wpAnyH_ready (rs := [8]) (by kernel_rfl) (by simp) ?_
                refine AllReadyH.cons rfl (fun K hK => ?_) AllReadyH.nil
                refine arm_store hK rfl rfl _ _ rfl _ (bt (UU)) (by rfl) (by rfl) _ hD (hHeld.set hDl _) (fun hHeld => ?_)
                clear hK
                have hF := set_at (bt (UU)) hD
                refine wpAnyH_done (by kernel_rfl) ?_ _
                go_wp2
                go_meet
                exact ⟨_, rfl, hF, hHeld⟩
            · have hDl := hHeld.lt
              refine arm_new hK rfl 11 rfl rfl (hHeld.next (bel_new _ _)) (fun hHeld hD hbN => ?_)
              clear hK
              try have hE := keepWords hbN hE
              simp only [Act.put, List.setIfInBounds_toArray, List.set_cons_zero, List.set_cons_succ]
              refine wpAnyH_ready (rs := [5]) (by kernel_rfl) (by simp) ?_
              refine AllReadyH.cons rfl (fun K hK => ?_) AllReadyH.nil
              refine arm_build hK rfl 106 rfl 2 _ rfl [BA, MJ] rfl (by decide) (by decide) (by first | rfl | go_simp) ?_
              intro w2 nw
              refine ⟨hHeld.next nw.bel, fun hHeld => ?_⟩
              clear hK
              have hE : WordsIn w2 _ [BA, MJ] := ⟨nw.at', by rw [nw.size]; omega⟩
              try have hD := keepBlock nw.bel hD
              simp only [Act.put, List.setIfInBounds_toArray, List.set_cons_zero, List.set_cons_succ]
              refine wpAnyH_ready (rs := [6]) (by kernel_rfl) (by simp) ?_
              refine AllReadyH.cons rfl (fun K hK => ?_) AllReadyH.nil
              refine arm_call hK rfl (some 107) rfl 15 #[.slice (some ⟨_, 0, none⟩) 2 2] (by intro w; go_simp) (add_n _ 2 2 _ (UU) _ hE rfl (by decide) HU.out) ?_
              intro w3 hb3
              refine ⟨hHeld.next hb3, fun hHeld => ?_⟩
              clear hK
              try have hD := keepBlock hb3 hD
              simp only [Act.put, List.setIfInBounds_toArray, List.set_cons_zero, List.set_cons_succ]
              refine wpAnyH_ready (rs := [8]) (by kernel_rfl) (by simp) ?_
              refine AllReadyH.cons rfl (fun K hK => ?_) AllReadyH.nil
              refine arm_store hK rfl rfl _ _ rfl _ (bt (UU)) (by rfl) (by rfl) _ hD (hHeld.set hDl _) (fun hHeld => ?_)
              clear hK
              have hF := set_at (bt (UU)) hD
              refine wpAnyH_done (by kernel_rfl) ?_ _
              go_wp2
              go_meet
              exact ⟨_, rfl, hF, hHeld⟩
          · have hDl := hHeld.lt
            refine arm_new hK rfl 11 rfl rfl (hHeld.next (bel_new _ _)) (fun hHeld hD hbN => ?_)
            clear hK
            try have hE := keepWords hbN hE
            simp only [Act.put, List.setIfInBounds_toArray, List.set_cons_zero, List.set_cons_succ]
            refine wpAnyH_ready (rs := [3]) (by kernel_rfl) (by simp) ?_
            refine AllReadyH.cons rfl (fun K hK => ?_) AllReadyH.nil
            refine arm_call hK rfl (some 104) rfl 16 #[.agg (bl (bt s.a)).toArray, .int .i64 2, .int .i64 13, .int .i64 22, .bool false] (by intro w; go_simp) (H2.out _) ?_
            intro w1 hb1
            refine ⟨hHeld.next hb1, fun hHeld => ?_⟩
            clear hK
            try have hD := keepBlock hb1 hD
            simp only [Act.put, List.setIfInBounds_toArray, List.set_cons_zero, List.set_cons_succ]
            refine wpAnyH_ready (rs := [5]) (by kernel_rfl) (by simp) ?_
            refine AllReadyH.cons rfl (fun K hK => ?_) AllReadyH.nil
            refine arm_build hK rfl 106 rfl 2 _ rfl [BA, MJ] rfl (by decide) (by decide) (by first | rfl | go_simp) ?_
            intro w2 nw
            refine ⟨hHeld.next nw.bel, fun hHeld => ?_⟩
            clear hK
            have hE : WordsIn w2 _ [BA, MJ] := ⟨nw.at', by rw [nw.size]; omega⟩
            try have hD := keepBlock nw.bel hD
            simp only [Act.put, List.setIfInBounds_toArray, List.set_cons_zero, List.set_cons_succ]
            refine wpAnyH_ready (rs := [6]) (by kernel_rfl) (by simp) ?_
            refine AllReadyH.cons rfl (fun K hK => ?_) AllReadyH.nil
            refine arm_call hK rfl (some 107) rfl 15 #[.slice (some ⟨_, 0, none⟩) 2 2] (by intro w; go_simp) (add_n _ 2 2 _ (UU) _ hE rfl (by decide) HU.out) ?_
            intro w3 hb3
            refine ⟨hHeld.next hb3, fun hHeld => ?_⟩
            clear hK
            try have hD := keepBlock hb3 hD
            simp only [Act.put, List.setIfInBounds_toArray, List.set_cons_zero, List.set_cons_succ]
            refine wpAnyH_ready (rs := [8]) (by kernel_rfl) (by simp) ?_
            refine AllReadyH.cons rfl (fun K hK => ?_) AllReadyH.nil
            refine arm_store hK rfl rfl _ _ rfl _ (bt (UU)) (by rfl) (by rfl) _ hD (hHeld.set hDl _) (fun hHeld => ?_)
            clear hK
            have hF := set_at (bt (UU)) hD
            refine wpAnyH_done (by kernel_rfl) ?_ _
            go_wp2
            go_meet
            exact ⟨_, rfl, hF, hHeld⟩
        case rest =>
          obtain ⟨D2, rfl, hD2, hS⟩ := hcut
          have HSY : Hid (SY w g s k x CH MJ D1 TT D2 UU _) := ⟨hS, hD2⟩
          clear hS hD2 HSX H2 HU
          go_upto_region 10 with fail
          refine wp_region_held_drew (S := SY w g s k x CH MJ D1 TT D2 UU) (by kernel_rfl) HSY.out.drew (fun hHeld => ?_)
          change wpAnyH _ _ _ _ _ 30 (Array.replicate 30 false) _ _
          refine take_load (i := 0) rfl (by kernel_rfl) (by kernel_rfl) (by kernel_rfl) (fun _ _ _ _ h => h) rfl 108 rfl _ rfl (D1) 0 rfl (bt TT) (fun W h => range_row h.1.2.1) hHeld ?_
          simp only [Act.put, List.setIfInBounds_toArray, List.set_cons_zero, List.set_cons_succ]
          refine take_load (i := 1) rfl (by kernel_rfl) (by kernel_rfl) (by kernel_rfl) (fun _ _ _ _ h => h) rfl 109 rfl _ rfl (D2) 0 rfl (bt UU) (fun W h => range_row h.2) hHeld ?_
          simp only [Act.put, List.setIfInBounds_toArray, List.set_cons_zero, List.set_cons_succ]
          refine take_op (i := 4) rfl (by kernel_rfl) (by kernel_rfl) (by kernel_rfl) (fun _ _ _ _ h => h) 112 rfl (.slice (some ⟨g, 0, none⟩) 8 cap) (Or.inl ⟨by rfl, by intro w hSw; go_simp⟩) hHeld ?_
          simp only [Act.put, List.setIfInBounds_toArray, List.set_cons_zero, List.set_cons_succ]
          refine take_op (i := 5) rfl (by kernel_rfl) (by kernel_rfl) (by kernel_rfl) (fun _ _ _ _ h => h) 113 rfl (.pointer (some ⟨g, 0, none⟩)) (Or.inl ⟨by rfl, by intro w hSw; go_simp⟩) hHeld ?_
          simp only [Act.put, List.setIfInBounds_toArray, List.set_cons_zero, List.set_cons_succ]
          refine take_load (i := 6) rfl (by kernel_rfl) (by kernel_rfl) (by kernel_rfl) (fun _ _ _ _ h => h) rfl 114 rfl _ rfl (g) 0 rfl (bt s.a) (fun W h => h.1.1.at 0 _ _ (by decide) rfl rfl) hHeld ?_
          simp only [Act.put, List.setIfInBounds_toArray, List.set_cons_zero, List.set_cons_succ]
          refine take_op (i := 7) rfl (by kernel_rfl) (by kernel_rfl) (by kernel_rfl) (fun _ _ _ _ h => h) 115 rfl (.slice (some ⟨g, 0, none⟩) 8 cap) (Or.inl ⟨by rfl, by intro w hSw; go_simp⟩) hHeld ?_
          simp only [Act.put, List.setIfInBounds_toArray, List.set_cons_zero, List.set_cons_succ]
          refine take_op (i := 8) rfl (by kernel_rfl) (by kernel_rfl) (by kernel_rfl) (fun _ _ _ _ h => h) 116 rfl (.pointer (some ⟨g, 32, none⟩)) (Or.inl ⟨by rfl, by intro w hSw; go_simp⟩) hHeld ?_
          simp only [Act.put, List.setIfInBounds_toArray, List.set_cons_zero, List.set_cons_succ]
          refine take_load (i := 9) rfl (by kernel_rfl) (by kernel_rfl) (by kernel_rfl) (fun _ _ _ _ h => h) rfl 117 rfl _ rfl (g) 32 rfl (bt s.b) (fun W h => h.1.1.at 1 _ _ (by decide) rfl rfl) hHeld ?_
          simp only [Act.put, List.setIfInBounds_toArray, List.set_cons_zero, List.set_cons_succ]
          refine take_op (i := 10) rfl (by kernel_rfl) (by kernel_rfl) (by kernel_rfl) (fun _ _ _ _ h => h) 118 rfl (.slice (some ⟨g, 0, none⟩) 8 cap) (Or.inl ⟨by rfl, by intro w hSw; go_simp⟩) hHeld ?_
          simp only [Act.put, List.setIfInBounds_toArray, List.set_cons_zero, List.set_cons_succ]
          refine take_op (i := 11) rfl (by kernel_rfl) (by kernel_rfl) (by kernel_rfl) (fun _ _ _ _ h => h) 119 rfl (.pointer (some ⟨g, 64, none⟩)) (Or.inl ⟨by rfl, by intro w hSw; go_simp⟩) hHeld ?_
          simp only [Act.put, List.setIfInBounds_toArray, List.set_cons_zero, List.set_cons_succ]
          refine take_load (i := 12) rfl (by kernel_rfl) (by kernel_rfl) (by kernel_rfl) (fun _ _ _ _ h => h) rfl 120 rfl _ rfl (g) 64 rfl (bt s.c) (fun W h => h.1.1.at 2 _ _ (by decide) rfl rfl) hHeld ?_
          simp only [Act.put, List.setIfInBounds_toArray, List.set_cons_zero, List.set_cons_succ]
          refine take_op (i := 13) rfl (by kernel_rfl) (by kernel_rfl) (by kernel_rfl) (fun _ _ _ _ h => h) 121 rfl (.slice (some ⟨g, 0, none⟩) 8 cap) (Or.inl ⟨by rfl, by intro w hSw; go_simp⟩) hHeld ?_
          simp only [Act.put, List.setIfInBounds_toArray, List.set_cons_zero, List.set_cons_succ]
          refine take_op (i := 14) rfl (by kernel_rfl) (by kernel_rfl) (by kernel_rfl) (fun _ _ _ _ h => h) 122 rfl (.pointer (some ⟨g, 96, none⟩)) (Or.inl ⟨by rfl, by intro w hSw; go_simp⟩) hHeld ?_
          simp only [Act.put, List.setIfInBounds_toArray, List.set_cons_zero, List.set_cons_succ]
          refine take_load (i := 15) rfl (by kernel_rfl) (by kernel_rfl) (by kernel_rfl) (fun _ _ _ _ h => h) rfl 123 rfl _ rfl (g) 96 rfl (bt s.d) (fun W h => h.1.1.at 3 _ _ (by decide) rfl rfl) hHeld ?_
          simp only [Act.put, List.setIfInBounds_toArray, List.set_cons_zero, List.set_cons_succ]
          refine take_load (i := 16) rfl (by kernel_rfl) (by kernel_rfl) (by kernel_rfl) (fun _ _ _ _ h => h) rfl 124 rfl _ rfl (D1) 0 rfl (bt TT) (fun W h => range_row h.1.2.1) hHeld ?_
          simp only [Act.put, List.setIfInBounds_toArray, List.set_cons_zero, List.set_cons_succ]
          refine take_op (i := 19) rfl (by kernel_rfl) (by kernel_rfl) (by kernel_rfl) (fun _ _ _ _ h => h) 127 rfl (.slice (some ⟨g, 0, none⟩) 8 cap) (Or.inl ⟨by rfl, by intro w hSw; go_simp⟩) hHeld ?_
          simp only [Act.put, List.setIfInBounds_toArray, List.set_cons_zero, List.set_cons_succ]
          refine take_op (i := 20) rfl (by kernel_rfl) (by kernel_rfl) (by kernel_rfl) (fun _ _ _ _ h => h) 128 rfl (.pointer (some ⟨g, 128, none⟩)) (Or.inl ⟨by rfl, by intro w hSw; go_simp⟩) hHeld ?_
          simp only [Act.put, List.setIfInBounds_toArray, List.set_cons_zero, List.set_cons_succ]
          refine take_load (i := 21) rfl (by kernel_rfl) (by kernel_rfl) (by kernel_rfl) (fun _ _ _ _ h => h) rfl 129 rfl _ rfl (g) 128 rfl (bt s.e) (fun W h => h.1.1.at 4 _ _ (by decide) rfl rfl) hHeld ?_
          simp only [Act.put, List.setIfInBounds_toArray, List.set_cons_zero, List.set_cons_succ]
          refine take_op (i := 22) rfl (by kernel_rfl) (by kernel_rfl) (by kernel_rfl) (fun _ _ _ _ h => h) 130 rfl (.slice (some ⟨g, 0, none⟩) 8 cap) (Or.inl ⟨by rfl, by intro w hSw; go_simp⟩) hHeld ?_
          simp only [Act.put, List.setIfInBounds_toArray, List.set_cons_zero, List.set_cons_succ]
          refine take_op (i := 23) rfl (by kernel_rfl) (by kernel_rfl) (by kernel_rfl) (fun _ _ _ _ h => h) 131 rfl (.pointer (some ⟨g, 160, none⟩)) (Or.inl ⟨by rfl, by intro w hSw; go_simp⟩) hHeld ?_
          simp only [Act.put, List.setIfInBounds_toArray, List.set_cons_zero, List.set_cons_succ]
          refine take_load (i := 24) rfl (by kernel_rfl) (by kernel_rfl) (by kernel_rfl) (fun _ _ _ _ h => h) rfl 132 rfl _ rfl (g) 160 rfl (bt s.f) (fun W h => h.1.1.at 5 _ _ (by decide) rfl rfl) hHeld ?_
          simp only [Act.put, List.setIfInBounds_toArray, List.set_cons_zero, List.set_cons_succ]
          refine take_op (i := 25) rfl (by kernel_rfl) (by kernel_rfl) (by kernel_rfl) (fun _ _ _ _ h => h) 133 rfl (.slice (some ⟨g, 0, none⟩) 8 cap) (Or.inl ⟨by rfl, by intro w hSw; go_simp⟩) hHeld ?_
          simp only [Act.put, List.setIfInBounds_toArray, List.set_cons_zero, List.set_cons_succ]
          refine take_op (i := 26) rfl (by kernel_rfl) (by kernel_rfl) (by kernel_rfl) (fun _ _ _ _ h => h) 134 rfl (.pointer (some ⟨g, 192, none⟩)) (Or.inl ⟨by rfl, by intro w hSw; go_simp⟩) hHeld ?_
          simp only [Act.put, List.setIfInBounds_toArray, List.set_cons_zero, List.set_cons_succ]
          refine take_load (i := 27) rfl (by kernel_rfl) (by kernel_rfl) (by kernel_rfl) (fun _ _ _ _ h => h) rfl 135 rfl _ rfl (g) 192 rfl (bt s.g) (fun W h => h.1.1.at 6 _ _ (by decide) rfl rfl) hHeld ?_
          simp only [Act.put, List.setIfInBounds_toArray, List.set_cons_zero, List.set_cons_succ]
          refine wpAnyH_ready (rs := [2, 17]) (by kernel_rfl) (by simp) ?_
          refine AllReadyH.cons rfl (fun K hK => ?_) (AllReadyH.cons rfl (fun K hK => ?_) AllReadyH.nil)
          · refine arm_build hK rfl 110 rfl 2 _ rfl [TT, UU] rfl (by decide) (by decide) (by first | rfl | go_simp) ?_
            intro w1 nw
            refine ⟨hHeld.next nw.bel, fun hHeld => ?_⟩
            clear hK
            have hE1 : WordsIn w1 _ [TT, UU] := ⟨nw.at', by rw [nw.size]; omega⟩
            try have hD := keepBlock nw.bel hD
            simp only [Act.put, List.setIfInBounds_toArray, List.set_cons_zero, List.set_cons_succ]
            try have hE2 := keepWords nw.bel hE2
            refine wpAnyH_ready (rs := [3, 17]) (by kernel_rfl) (by simp) ?_
            refine AllReadyH.cons rfl (fun K hK => ?_) (AllReadyH.cons rfl (fun K hK => ?_) AllReadyH.nil)
            · refine arm_call hK rfl (some 111) rfl 15 #[.slice (some ⟨_, 0, none⟩) 2 2] (by intro w; go_simp) (add_n _ 2 2 _ (NA) _ hE1 rfl (by decide) HA.out) ?_
              intro w2 hb3
              refine ⟨hHeld.next hb3, fun hHeld => ?_⟩
              clear hK
              try have hD := keepBlock hb3 hD
              simp only [Act.put, List.setIfInBounds_toArray, List.set_cons_zero, List.set_cons_succ]
              try have hE2 := keepWords hb3 hE2
              refine wpAnyH_ready (rs := [17]) (by kernel_rfl) (by simp) ?_
              refine AllReadyH.cons rfl (fun K hK => ?_) AllReadyH.nil
              refine arm_build hK rfl 125 rfl 2 _ rfl [s.d, TT] rfl (by decide) (by decide) (by first | rfl | go_simp) ?_
              intro w3 nw
              refine ⟨hHeld.next nw.bel, fun hHeld => ?_⟩
              clear hK
              have hE2 : WordsIn w3 _ [s.d, TT] := ⟨nw.at', by rw [nw.size]; omega⟩
              try have hD := keepBlock nw.bel hD
              simp only [Act.put, List.setIfInBounds_toArray, List.set_cons_zero, List.set_cons_succ]
              try have hE1 := keepWords nw.bel hE1
              refine wpAnyH_ready (rs := [18]) (by kernel_rfl) (by simp) ?_
              refine AllReadyH.cons rfl (fun K hK => ?_) AllReadyH.nil
              refine arm_call hK rfl (some 126) rfl 15 #[.slice (some ⟨_, 0, none⟩) 2 2] (by intro w; go_simp) (add_n _ 2 2 _ (NE) _ hE2 rfl (by decide) HEE.out) ?_
              intro w4 hb3
              refine ⟨hHeld.next hb3, fun hHeld => ?_⟩
              clear hK
              try have hD := keepBlock hb3 hD
              simp only [Act.put, List.setIfInBounds_toArray, List.set_cons_zero, List.set_cons_succ]
              refine wpAnyH_ready (rs := [28]) (by kernel_rfl) (by simp) ?_
              refine AllReadyH.cons rfl (fun K hK => ?_) AllReadyH.nil
              have hw4 := hHeld.1.1.lt
              refine arm_build hK rfl 136 rfl 8 _ rfl [NA, s.a, s.b, s.c, NE, s.e, s.f, s.g] rfl (by decide) (by decide) (by first | rfl | go_simp) ?_
              intro w5 nw
              refine ⟨hHeld.next nw.bel, fun hHeld => ?_⟩
              clear hK
              have hE3 : WordsIn w5 _ [NA, s.a, s.b, s.c, NE, s.e, s.f, s.g] := ⟨nw.at', by rw [nw.size]; omega⟩
              try have hD := keepBlock nw.bel hD
              simp only [Act.put, List.setIfInBounds_toArray, List.set_cons_zero, List.set_cons_succ]
              refine take_op (i := 29) rfl (by kernel_rfl) (by kernel_rfl) (by kernel_rfl) (fun _ _ _ _ h => h) 6 rfl (.slice (some ⟨w4.heap.size, 0, none⟩) 8 8) (Or.inl ⟨by rfl, by intro w hSw; go_simp⟩) hHeld ?_
              simp only [Act.put, List.setIfInBounds_toArray, List.set_cons_zero, List.set_cons_succ]
              refine wpAnyH_done (by kernel_rfl) ?_ _
              go_wp2
              go_ret
              exact ⟨w4.heap.size, rfl, by omega, hE3.2, by rw [HLL.out]; exact hE3.1, hHeld.1.1.2.1.2.2.2.2⟩
            · refine arm_build hK rfl 125 rfl 2 _ rfl [s.d, TT] rfl (by decide) (by decide) (by first | rfl | go_simp) ?_
              intro w3 nw
              refine ⟨hHeld.next nw.bel, fun hHeld => ?_⟩
              clear hK
              have hE2 : WordsIn w3 _ [s.d, TT] := ⟨nw.at', by rw [nw.size]; omega⟩
              try have hD := keepBlock nw.bel hD
              simp only [Act.put, List.setIfInBounds_toArray, List.set_cons_zero, List.set_cons_succ]
              try have hE1 := keepWords nw.bel hE1
              refine wpAnyH_ready (rs := [3]) (by kernel_rfl) (by simp) ?_
              refine AllReadyH.cons rfl (fun K hK => ?_) AllReadyH.nil
              refine arm_call hK rfl (some 111) rfl 15 #[.slice (some ⟨_, 0, none⟩) 2 2] (by intro w; go_simp) (add_n _ 2 2 _ (NA) _ hE1 rfl (by decide) HA.out) ?_
              intro w2 hb3
              refine ⟨hHeld.next hb3, fun hHeld => ?_⟩
              clear hK
              try have hD := keepBlock hb3 hD
              simp only [Act.put, List.setIfInBounds_toArray, List.set_cons_zero, List.set_cons_succ]
              try have hE2 := keepWords hb3 hE2
              refine wpAnyH_ready (rs := [18]) (by kernel_rfl) (by simp) ?_
              refine AllReadyH.cons rfl (fun K hK => ?_) AllReadyH.nil
              refine arm_call hK rfl (some 126) rfl 15 #[.slice (some ⟨_, 0, none⟩) 2 2] (by intro w; go_simp) (add_n _ 2 2 _ (NE) _ hE2 rfl (by decide) HEE.out) ?_
              intro w4 hb3
              refine ⟨hHeld.next hb3, fun hHeld => ?_⟩
              clear hK
              try have hD := keepBlock hb3 hD
              simp only [Act.put, List.setIfInBounds_toArray, List.set_cons_zero, List.set_cons_succ]
              refine wpAnyH_ready (rs := [28]) (by kernel_rfl) (by simp) ?_
              refine AllReadyH.cons rfl (fun K hK => ?_) AllReadyH.nil
              have hw4 := hHeld.1.1.lt
              refine arm_build hK rfl 136 rfl 8 _ rfl [NA, s.a, s.b, s.c, NE, s.e, s.f, s.g] rfl (by decide) (by decide) (by first | rfl | go_simp) ?_
              intro w5 nw
              refine ⟨hHeld.next nw.bel, fun hHeld => ?_⟩
              clear hK
              have hE3 : WordsIn w5 _ [NA, s.a, s.b, s.c, NE, s.e, s.f, s.g] := ⟨nw.at', by rw [nw.size]; omega⟩
              try have hD := keepBlock nw.bel hD
              simp only [Act.put, List.setIfInBounds_toArray, List.set_cons_zero, List.set_cons_succ]
              refine take_op (i := 29) rfl (by kernel_rfl) (by kernel_rfl) (by kernel_rfl) (fun _ _ _ _ h => h) 6 rfl (.slice (some ⟨w4.heap.size, 0, none⟩) 8 8) (Or.inl ⟨by rfl, by intro w hSw; go_simp⟩) hHeld ?_
              simp only [Act.put, List.setIfInBounds_toArray, List.set_cons_zero, List.set_cons_succ]
              refine wpAnyH_done (by kernel_rfl) ?_ _
              go_wp2
              go_ret
              exact ⟨w4.heap.size, rfl, by omega, hE3.2, by rw [HLL.out]; exact hE3.1, hHeld.1.1.2.1.2.2.2.2⟩
          · refine arm_build hK rfl 125 rfl 2 _ rfl [s.d, TT] rfl (by decide) (by decide) (by first | rfl | go_simp) ?_
            intro w3 nw
            refine ⟨hHeld.next nw.bel, fun hHeld => ?_⟩
            clear hK
            have hE2 : WordsIn w3 _ [s.d, TT] := ⟨nw.at', by rw [nw.size]; omega⟩
            try have hD := keepBlock nw.bel hD
            simp only [Act.put, List.setIfInBounds_toArray, List.set_cons_zero, List.set_cons_succ]
            try have hE1 := keepWords nw.bel hE1
            refine wpAnyH_ready (rs := [2]) (by kernel_rfl) (by simp) ?_
            refine AllReadyH.cons rfl (fun K hK => ?_) AllReadyH.nil
            refine arm_build hK rfl 110 rfl 2 _ rfl [TT, UU] rfl (by decide) (by decide) (by first | rfl | go_simp) ?_
            intro w1 nw
            refine ⟨hHeld.next nw.bel, fun hHeld => ?_⟩
            clear hK
            have hE1 : WordsIn w1 _ [TT, UU] := ⟨nw.at', by rw [nw.size]; omega⟩
            try have hD := keepBlock nw.bel hD
            simp only [Act.put, List.setIfInBounds_toArray, List.set_cons_zero, List.set_cons_succ]
            try have hE2 := keepWords nw.bel hE2
            refine wpAnyH_ready (rs := [3]) (by kernel_rfl) (by simp) ?_
            refine AllReadyH.cons rfl (fun K hK => ?_) AllReadyH.nil
            refine arm_call hK rfl (some 111) rfl 15 #[.slice (some ⟨_, 0, none⟩) 2 2] (by intro w; go_simp) (add_n _ 2 2 _ (NA) _ hE1 rfl (by decide) HA.out) ?_
            intro w2 hb3
            refine ⟨hHeld.next hb3, fun hHeld => ?_⟩
            clear hK
            try have hD := keepBlock hb3 hD
            simp only [Act.put, List.setIfInBounds_toArray, List.set_cons_zero, List.set_cons_succ]
            try have hE2 := keepWords hb3 hE2
            refine wpAnyH_ready (rs := [18]) (by kernel_rfl) (by simp) ?_
            refine AllReadyH.cons rfl (fun K hK => ?_) AllReadyH.nil
            refine arm_call hK rfl (some 126) rfl 15 #[.slice (some ⟨_, 0, none⟩) 2 2] (by intro w; go_simp) (add_n _ 2 2 _ (NE) _ hE2 rfl (by decide) HEE.out) ?_
            intro w4 hb3
            refine ⟨hHeld.next hb3, fun hHeld => ?_⟩
            clear hK
            try have hD := keepBlock hb3 hD
            simp only [Act.put, List.setIfInBounds_toArray, List.set_cons_zero, List.set_cons_succ]
            refine wpAnyH_ready (rs := [28]) (by kernel_rfl) (by simp) ?_
            refine AllReadyH.cons rfl (fun K hK => ?_) AllReadyH.nil
            have hw4 := hHeld.1.1.lt
            refine arm_build hK rfl 136 rfl 8 _ rfl [NA, s.a, s.b, s.c, NE, s.e, s.f, s.g] rfl (by decide) (by decide) (by first | rfl | go_simp) ?_
            intro w5 nw
            refine ⟨hHeld.next nw.bel, fun hHeld => ?_⟩
            clear hK
            have hE3 : WordsIn w5 _ [NA, s.a, s.b, s.c, NE, s.e, s.f, s.g] := ⟨nw.at', by rw [nw.size]; omega⟩
            try have hD := keepBlock nw.bel hD
            simp only [Act.put, List.setIfInBounds_toArray, List.set_cons_zero, List.set_cons_succ]
            refine take_op (i := 29) rfl (by kernel_rfl) (by kernel_rfl) (by kernel_rfl) (fun _ _ _ _ h => h) 6 rfl (.slice (some ⟨w4.heap.size, 0, none⟩) 8 8) (Or.inl ⟨by rfl, by intro w hSw; go_simp⟩) hHeld ?_
            simp only [Act.put, List.setIfInBounds_toArray, List.set_cons_zero, List.set_cons_succ]
            refine wpAnyH_done (by kernel_rfl) ?_ _
            go_wp2
            go_ret
            exact ⟨w4.heap.size, rfl, by omega, hE3.2, by rw [HLL.out]; exact hE3.1, hHeld.1.1.2.1.2.2.2.2⟩
end Go.Proofs.YtlnagnkiadlfpaaDoor
