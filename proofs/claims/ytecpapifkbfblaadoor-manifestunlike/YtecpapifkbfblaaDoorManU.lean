/- ManifestUnlike's first region, by itself. -/
import Derived.Test.YtecpapifkbfblaaDoorManO
import Derived.Test.YtecpapifkbfblaaDoorArmW
namespace Go.Proofs.YtecpapifkbfblaaDoor
open Go.RowKit
set_option linter.unusedVariables false
set_option linter.unusedSimpArgs false

/-- The region of a number within a body. -/
def regionN (k : Nat) : Code → Option Code
  | .region i ops d => if i = k then some (.region i ops d) else none
  | .seq a b => match regionN k a with
    | some c => some c
    | none => regionN k b
  | .cond _ a b => match regionN k a with
    | some c => some c
    | none => regionN k b
  | .block _ c => regionN k c
  | .loop c => regionN k c
  | .scope c => regionN k c
  | _ => none
noncomputable def unl1 : Code := (Tryd.f4.body.bind (regionN 1)).getD .skip
/-- Two manifests in two blocks. -/
structure TB2 (w W : World) (b1 b2 : Nat) (c1 c2 : Array Value) : Prop where
  h1 : W.heap[b1]? = some (.cells c1 37 (0, 0))
  h2 : W.heap[b2]? = some (.cells c2 37 (0, 0))
  bel : Below w.heap.size w W
  lo : w.heap.size ≤ b1 ∧ w.heap.size ≤ b2 ∧ b1 ≠ b2
theorem TB2.below {w W W' : World} {b1 b2 : Nat} {c1 c2 : Array Value} (h : TB2 w W b1 b2 c1 c2) (hb : Below W.heap.size W W') : TB2 w W' b1 b2 c1 c2 :=
  ⟨(hb.block _ (Array.getElem?_eq_some_iff.1 h.h1).1).trans h.h1, (hb.block _ (Array.getElem?_eq_some_iff.1 h.h2).1).trans h.h2, h.bel.trans (hb.mono h.bel.size), h.lo⟩
theorem TB2.drewN {w W : World} {b1 b2 : Nat} {c1 c2 : Array Value} (h : TB2 w W b1 b2 c1 c2) (n : Nat) : TB2 w (W.drewN n) b1 b2 c1 c2 := ⟨h.h1, h.h2, ⟨h.bel.os, h.bel.tape, h.bel.output, h.bel.size, h.bel.block⟩, h.lo⟩
theorem TB2.start (w : World) (c1 c2 : Array Value) : TB2 w ((w.alloc (.cells c1 37)).alloc (.cells c2 37)) w.heap.size (w.heap.size + 1) c1 c2 := by
  refine ⟨?_, ?_, ((Below.refl _ w).alloc (Nat.le_refl _) _).alloc (by rw [World.size_alloc]; omega) _, ⟨Nat.le_refl _, by omega, by omega⟩⟩
  · rw [heap_alloc_old _ _ (by rw [World.size_alloc]; omega)]; exact heap_alloc_new w _
  · have := heap_alloc_new (w.alloc (.cells c1 37)) (.cells c2 37)
    rw [World.size_alloc] at this; exact this
/-- All five written. -/
def pt5 (w : World) (b : Nat) (v0 v1 v2 v3 v4 : Value) : World := ((((w.setCell ⟨b, 0, none⟩ v0).setCell ⟨b, 1, none⟩ v1).setCell ⟨b, 2, none⟩ v2).setCell ⟨b, 3, none⟩ v3).setCell ⟨b, 4, none⟩ v4
theorem pt5_heap {w : World} {b : Nat} {x0 x1 x2 x3 x4 : Value} {ty : TypeId} (h : w.heap[b]? = some (.cells #[x0, x1, x2, x3, x4] ty (0, 0))) (v0 v1 v2 v3 v4 : Value) : (pt5 w b v0 v1 v2 v3 v4).heap[b]? = some (.cells #[v0, v1, v2, v3, v4] ty (0, 0)) := by
  unfold pt5
  rw [heap_setCell_same _ _ _ _ _ _ (heap_setCell_same _ _ _ _ _ _ (heap_setCell_same _ _ _ _ _ _ (heap_setCell_same _ _ _ _ _ _ (heap_setCell_same _ _ _ _ _ _ h))))]; rfl
theorem pt5_grown (w : World) (b : Nat) (v0 v1 v2 v3 v4 : Value) : w.grownBy (pt5 w b v0 v1 v2 v3 v4) (some b) := gset (gset (gset (gset (gset (grefl w _) 0 v0) 1 v1) 2 v2) 3 v3) 4 v4
theorem TX.pt {w : World} {v : Value} {l : List (List UInt8)} {b : Nat} (h : TX w v l) (hg : ∀ g o n c, v = .slice (some ⟨g, o, none⟩) n c → b < g) (v0 v1 v2 v3 v4 : Value) : TX (pt5 w b v0 v1 v2 v3 v4) v l := by
  obtain ⟨a, cap, rfl, hc, hf⟩ := h
  refine ⟨a, cap, rfl, hc, fun hne => ?_⟩
  obtain ⟨g, o, rfl, h1, h2⟩ := hf hne
  have hb := hg g o _ _ rfl
  have hgr := pt5_grown w b v0 v1 v2 v3 v4
  exact ⟨g, o, rfl, Nat.lt_of_lt_of_le h1 hgr.size, fun i hi => hgr.cell (h2 i hi) (fun e => by have e2 : g = b := Option.some.inj e; omega)⟩
set_option maxRecDepth 100000 in
set_option maxHeartbeats 8000000 in
theorem unl1_any {w X : World} {a b : Mf} {va vb' : Value} {K : Act → World → Prop} {Q' : Exit → Act → World → Prop} {t0 t1 t4 t5 t6 t7 t8 t9 t10 t11 t12 t13 t14 t15 t16 t17 t18 t19 t20 t21 t22 t23 t24 t25 t26 t27 t28 t29 t30 t31 t32 t33 t34 t35 t36 t37 t38 t39 t40 t41 t42 t43 t44 t45 t46 t47 t48 t49 t50 t51 t52 t53 t54 t55 t56 t57 t58 t59 t60 t61 t62 t63 t64 t65 t66 t67 t68 t69 t70 t71 t72 t73 t74 t75 t76 t77 t78 t79 t80 t81 t82 t83 t84 t85 t86 t87 t88 t89 t90 t91 t92 t93 t94 t95 t96 t97 t98 t99 t100 t101 t102 t103 t104 t105 t106 t107 t108 t109 t110 t111 : Value} (HS : Hid (TB2 w X w.heap.size (w.heap.size + 1) #[.int .i64 a.t, .string (mkB a.g), .string (mkB a.p), .int .i64 a.s, va] #[.int .i64 b.t, .string (mkB b.g), .string (mkB b.p), .int .i64 b.s, vb']))
    (HFA : Hid (∀ W, Below w.heap.size w W → Calls Tryd.prog 11 #[mfV a va] W fun e w' => ∃ v', e = .returned (mfV (fewM a) v') ∧ TX w' v' (fewM a).ch ∧ (∀ g o n c, v' = .slice (some ⟨g, o, none⟩) n c → W.heap.size ≤ g) ∧ Below W.heap.size W w'))
    (HFB : Hid (∀ W, Below w.heap.size w W → Calls Tryd.prog 11 #[mfV b vb'] W fun e w' => ∃ v', e = .returned (mfV (fewM b) v') ∧ TX w' v' (fewM b).ch ∧ (∀ g o n c, v' = .slice (some ⟨g, o, none⟩) n c → W.heap.size ≤ g) ∧ Below W.heap.size W w'))
    (hQ : ∀ (ch : List PanicEntry) (T1 T2 : Array Value) (D : List Deferred) (w : World), Q' (.panic ch) ⟨T1, D⟩ w → Q' (.panic ch) ⟨T2, D⟩ w)
    (hrest : Hid (∀ (s11 s12 s13 s14 v1 v2 : Value) (wx : World), TX wx v1 (fewM a).ch → TX wx v2 (fewM b).ch → TB2 w wx w.heap.size (w.heap.size + 1) #[.int .i64 (fewM a).t, .string (mkB (fewM a).g), .string (mkB (fewM a).p), .int .i64 (fewM a).s, v1] #[.int .i64 (fewM b).t, .string (mkB (fewM b).g), .string (mkB (fewM b).p), .int .i64 (fewM b).s, v2] → K ⟨#[t0, t1, .pointer (some ⟨w.heap.size, 0, none⟩), .pointer (some ⟨w.heap.size + 1, 0, none⟩), t4, t5, t6, t7, t8, t9, t10, s11, s12, s13, s14, t15, t16, t17, t18, t19, t20, t21, t22, t23, t24, t25, t26, t27, t28, t29, t30, t31, t32, t33, t34, t35, t36, t37, t38, t39, t40, t41, t42, t43, t44, t45, t46, t47, t48, t49, t50, t51, t52, t53, t54, t55, t56, t57, t58, t59, t60, t61, t62, t63, t64, t65, t66, t67, t68, t69, t70, t71, t72, t73, t74, t75, t76, t77, t78, t79, t80, t81, t82, t83, t84, t85, t86, t87, t88, t89, t90, t91, t92, t93, t94, t95, t96, t97, t98, t99, t100, t101, t102, t103, t104, t105, t106, t107, t108, t109, t110, t111], []⟩ wx)) :
    Code.wp Tryd.prog unl1 (Exit.then K Q') ⟨#[t0, t1, .pointer (some ⟨w.heap.size, 0, none⟩), .pointer (some ⟨w.heap.size + 1, 0, none⟩), t4, t5, t6, t7, t8, t9, t10, t11, t12, t13, t14, t15, t16, t17, t18, t19, t20, t21, t22, t23, t24, t25, t26, t27, t28, t29, t30, t31, t32, t33, t34, t35, t36, t37, t38, t39, t40, t41, t42, t43, t44, t45, t46, t47, t48, t49, t50, t51, t52, t53, t54, t55, t56, t57, t58, t59, t60, t61, t62, t63, t64, t65, t66, t67, t68, t69, t70, t71, t72, t73, t74, t75, t76, t77, t78, t79, t80, t81, t82, t83, t84, t85, t86, t87, t88, t89, t90, t91, t92, t93, t94, t95, t96, t97, t98, t99, t100, t101, t102, t103, t104, t105, t106, t107, t108, t109, t110, t111], []⟩ X := by
  conv => arg 2; whnf
  have hsz := HS.out.bel.size
  have hlt := (Array.getElem?_eq_some_iff.1 HS.out.h2).1
  have HSD : Hid (TB2 w X.drew w.heap.size (w.heap.size + 1) #[.int .i64 a.t, .string (mkB a.g), .string (mkB a.p), .int .i64 a.s, va] #[.int .i64 b.t, .string (mkB b.g), .string (mkB b.p), .int .i64 b.s, vb']) := ⟨HS.out.h1, HS.out.h2, HS.out.bel.drew, HS.out.lo⟩
  obtain ⟨⟨a0, a1, a2, a3, a4⟩, -⟩ := five_cell HS.out.h1
  obtain ⟨⟨b0, b1, b2, b3, b4⟩, -⟩ := five_cell HS.out.h2
  refine wp_region_any (by kernel_rfl) ?_
  change wpAny _ _ _ _ 6 (Array.replicate 6 false) _ (World.drew _)
  refine wpAny_ready (rs := [0, 2]) (by kernel_rfl) (by simp) ?_
  refine AllReady.cons rfl (fun K hK => ?oa) (AllReady.cons rfl (fun K hK => ?ob) AllReady.nil)
  case' oa =>
    refine armW_value rfl (some 11) rfl (v := .agg #[.int .i64 a.t, .string (mkB a.g), .string (mkB a.p), .int .i64 a.s, va]) (w' := X.drew) (by go_simp) (hK _ _ ?_)
    clear hK
    simp only [Act.put, List.setIfInBounds_toArray, List.set_cons_zero, List.set_cons_succ]
    refine wpAny_ready (rs := [1, 2]) (by kernel_rfl) (by simp) ?_
    refine AllReady.cons rfl (fun K hK => ?oc) (AllReady.cons rfl (fun K hK => ?od) AllReady.nil)
  case' ob =>
    refine armW_value rfl (some 13) rfl (v := .agg #[.int .i64 b.t, .string (mkB b.g), .string (mkB b.p), .int .i64 b.s, vb']) (w' := X.drew) (by go_simp) (hK _ _ ?_)
    clear hK
    simp only [Act.put, List.setIfInBounds_toArray, List.set_cons_zero, List.set_cons_succ]
    refine wpAny_ready (rs := [0]) (by kernel_rfl) (by simp) ?_
    refine AllReady.cons rfl (fun K hK => ?_) AllReady.nil
    refine armW_value rfl (some 11) rfl (v := .agg #[.int .i64 a.t, .string (mkB a.g), .string (mkB a.p), .int .i64 a.s, va]) (w' := X.drew) (by go_simp) (hK _ _ ?_)
    clear hK
    simp only [Act.put, List.setIfInBounds_toArray, List.set_cons_zero, List.set_cons_succ]
    refine wpAny_ready (rs := [1]) (by kernel_rfl) (by simp) ?_
    refine AllReady.cons rfl (fun K hK => ?_) AllReady.nil
  case' od =>
    refine armW_value rfl (some 13) rfl (v := .agg #[.int .i64 b.t, .string (mkB b.g), .string (mkB b.p), .int .i64 b.s, vb']) (w' := X.drew) (by go_simp) (hK _ _ ?_)
    clear hK
    simp only [Act.put, List.setIfInBounds_toArray, List.set_cons_zero, List.set_cons_succ]
    refine wpAny_ready (rs := [1]) (by kernel_rfl) (by simp) ?_
    refine AllReady.cons rfl (fun K hK => ?_) AllReady.nil
  all_goals
    refine armW_callE rfl (some 12) rfl 11 #[.agg #[.int .i64 a.t, .string (mkB a.g), .string (mkB a.p), .int .i64 a.s, va]] (by intro w; go_simp) (R := fun v w' => ∃ v', v = mfV (fewM a) v' ∧ TX w' v' (fewM a).ch ∧ (∀ g o n c, v' = .slice (some ⟨g, o, none⟩) n c → X.heap.size ≤ g) ∧ Below X.heap.size X.drew w') ((HFA.out _ HSD.out.bel).mono (by rintro e w' ⟨v', rfl, h1, h2, h3⟩; exact ⟨_, rfl, v', rfl, h1, h2, h3⟩)) ?_
    rintro v u1 ⟨v1, rfl, hT1, hg1, hb1⟩
    obtain ⟨x1, y1, hv1, -, -⟩ := id hT1
    subst hv1
    have HS1 : Hid (TB2 w u1 _ _ _ _) := HSD.out.below hb1
    obtain ⟨⟨a0', a1', a2', a3', a4'⟩, -⟩ := five_cell HS1.out.h1
    obtain ⟨⟨b0', b1', b2', b3', b4'⟩, -⟩ := five_cell HS1.out.h2
    refine hK _ _ ?_
    clear hK
    simp only [Act.put, List.setIfInBounds_toArray, List.set_cons_zero, List.set_cons_succ]
  case' oc =>
    refine wpAny_ready (rs := [2]) (by kernel_rfl) (by simp) ?_
    refine AllReady.cons rfl (fun K hK => ?_) AllReady.nil
    refine armW_value rfl (some 13) rfl (v := .agg #[.int .i64 b.t, .string (mkB b.g), .string (mkB b.p), .int .i64 b.s, vb']) (w' := u1) (by go_simp) (hK _ _ ?_)
    clear hK
    simp only [Act.put, List.setIfInBounds_toArray, List.set_cons_zero, List.set_cons_succ]
  all_goals
    refine wpAny_ready (rs := [3]) (by kernel_rfl) (by simp) ?_
    refine AllReady.cons rfl (fun K hK => ?_) AllReady.nil
    refine armW_callE rfl (some 14) rfl 11 #[.agg #[.int .i64 b.t, .string (mkB b.g), .string (mkB b.p), .int .i64 b.s, vb']] (by intro w; go_simp) (R := fun v w' => ∃ v', v = mfV (fewM b) v' ∧ TX w' v' (fewM b).ch ∧ (∀ g o n c, v' = .slice (some ⟨g, o, none⟩) n c → u1.heap.size ≤ g) ∧ Below u1.heap.size u1 w') ((HFB.out _ HS1.out.bel).mono (by rintro e w' ⟨v', rfl, h1, h2, h3⟩; exact ⟨_, rfl, v', rfl, h1, h2, h3⟩)) ?_
    rintro v u2 ⟨v2, rfl, hT2, hg2, hb2⟩
    obtain ⟨x2, y2, hv2, -, -⟩ := id hT2
    subst hv2
    have HS2 : Hid (TB2 w u2 _ _ _ _) := HS1.out.below hb2
    obtain ⟨⟨a0'', a1'', a2'', a3'', a4''⟩, p0, p1, p2, p3, p4⟩ := five_cell HS2.out.h1
    obtain ⟨⟨b0'', b1'', b2'', b3'', b4''⟩, q0, q1, q2, q3, q4⟩ := five_cell HS2.out.h2
    refine hK _ _ ?_
    clear hK
    simp only [Act.put, List.setIfInBounds_toArray, List.set_cons_zero, List.set_cons_succ]
    unfold mfV
    refine wpAny_ready (rs := [4]) (by kernel_rfl) (by simp) ?_
    refine AllReady.cons rfl (fun K hK => ?_) AllReady.nil
    refine armW rfl ?_
    go_simp
    refine hK _ _ ?_
    clear hK
    refine wpAny_ready (rs := [5]) (by kernel_rfl) (by simp) ?_
    refine AllReady.cons rfl (fun K hK => ?_) AllReady.nil
    refine armW rfl ?_
    go_simp
    refine hK _ _ ?_
    clear hK
    refine wpAny_done (by kernel_rfl) ?_ _
    have hsz1 := hb1.size
    have hsz1b : X.heap.size ≤ u1.heap.size := hsz1
    have hTa : TX u2 (.slice x1 (fewM a).ch.length y1) (fewM a).ch := hT1.below hb2
    have hTa2 := (hTa.pt (b := w.heap.size) (fun g o n c e => by have := hg1 g o n c e; omega) (.int .i64 (fewM a).t) (.string (mkB (fewM a).g)) (.string (mkB (fewM a).p)) (.int .i64 (fewM a).s) (.slice x1 (fewM a).ch.length y1)).pt (b := w.heap.size + 1) (fun g o n c e => by have := hg1 g o n c e; omega) (.int .i64 (fewM b).t) (.string (mkB (fewM b).g)) (.string (mkB (fewM b).p)) (.int .i64 (fewM b).s) (.slice x2 (fewM b).ch.length y2)
    have hTb2 := (hT2.pt (b := w.heap.size) (fun g o n c e => by have := hg2 g o n c e; omega) (.int .i64 (fewM a).t) (.string (mkB (fewM a).g)) (.string (mkB (fewM a).p)) (.int .i64 (fewM a).s) (.slice x1 (fewM a).ch.length y1)).pt (b := w.heap.size + 1) (fun g o n c e => by have := hg2 g o n c e; omega) (.int .i64 (fewM b).t) (.string (mkB (fewM b).g)) (.string (mkB (fewM b).p)) (.int .i64 (fewM b).s) (.slice x2 (fewM b).ch.length y2)
    have hgA := pt5_grown u2 w.heap.size (.int .i64 (fewM a).t) (.string (mkB (fewM a).g)) (.string (mkB (fewM a).p)) (.int .i64 (fewM a).s) (.slice x1 (fewM a).ch.length y1)
    have hhA := pt5_heap HS2.out.h1 (.int .i64 (fewM a).t) (.string (mkB (fewM a).g)) (.string (mkB (fewM a).p)) (.int .i64 (fewM a).s) (.slice x1 (fewM a).ch.length y1)
    have hhB := (hgA.block _ (Array.getElem?_eq_some_iff.1 HS2.out.h2).1 (fun e => by have := Option.some.inj e; omega)).trans HS2.out.h2
    have hgB := pt5_grown (pt5 u2 w.heap.size (.int .i64 (fewM a).t) (.string (mkB (fewM a).g)) (.string (mkB (fewM a).p)) (.int .i64 (fewM a).s) (.slice x1 (fewM a).ch.length y1)) (w.heap.size + 1) (.int .i64 (fewM b).t) (.string (mkB (fewM b).g)) (.string (mkB (fewM b).p)) (.int .i64 (fewM b).s) (.slice x2 (fewM b).ch.length y2)
    have HFIN : TB2 w _ w.heap.size (w.heap.size + 1) _ _ := ⟨(hgB.block _ (Array.getElem?_eq_some_iff.1 hhA).1 (fun e => by have := Option.some.inj e; omega)).trans hhA, pt5_heap hhB _ _ _ _ _, (HS2.out.bel.grown hgA HS2.out.bel.size (fun k hk => by cases hk; exact Nat.le_refl _)).grown hgB (Nat.le_trans HS2.out.bel.size hgA.size) (fun k hk => by cases hk; omega), HS.out.lo⟩
    unfold pt5 at hTa2 hTb2 HFIN
    go_wp2
    exact hrest.out _ _ _ _ _ _ _ hTa2 hTb2 HFIN
end Go.Proofs.YtecpapifkbfblaaDoor
