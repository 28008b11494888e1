/- The document's dynamic: the test behind its row of lengths, by itself. -/
import Derived.Test.YthkppipdflmekaaGreatQRDynM
import Derived.Test.YthkppipdflmekaaGreatQArmW
import Derived.Test.YthkppipdflmekaaGreatQRTkM
set_option maxRecDepth 100000
set_option maxHeartbeats 8000000
namespace Go.Proofs.YthkppipdflmekaaGreat
open Go.RowKit
set_option linter.unusedVariables false
set_option linter.unusedSimpArgs false
def qei (k : Nat) : Code → Option Code
 | .region i ops d => if i = k then some (.region i ops d) else none
 | .seq a b => match qei k a with
  | some c => some c
  | none => qei k b
 | .cond _ a b => match qei k a with
  | some c => some c
  | none => qei k b
 | .block _ c => qei k c
 | .loop c => qei k c
 | .scope c => qei k c
 | _ => none
noncomputable def body41 : Code := (Tryz.f41.body.bind (qei 41)).getD .skip
theorem DZ.drew {w W : World} {B g c : Nat} {L : List Bool} {bx rx p o m e gf : Nat} {fs : List Nat} {s0 : Nat} {vt vl : Value} {row : List Nat} (h : DZ w W B g c L bx rx p o m e gf fs s0 vt vl row) : DZ w W.drew B g c L bx rx p o m e gf fs s0 vt vl row := ⟨h.dy.drew, h.tb, h.out, h.lo2, h.hs⟩
theorem q2i {w W11 : World} {B g c : Nat} {L : List Bool} {q o m e gf s0 a b n : Nat} {F row : List Nat} {ta la : Option Addr} {tc lc : Nat} {K : Act → World → Prop} {Q' : Exit → Act → World → Prop} (R : Nat → Prop) {t0 t2 t3 t4 t7 t8 t9 t10 t11 t13 t14 t15 t16 t17 t18 t19 t20 t21 t22 t23 t24 t25 t26 t27 t28 t29 t30 t31 t32 t33 t34 t35 t36 t37 t38 t39 t40 t41 t42 t43 t44 t45 t46 t47 t48 t49 t50 t51 t52 t53 t54 t55 t56 t57 t58 t59 t60 t61 t62 t63 t64 t65 t66 t67 t68 t69 t70 t71 t72 t73 t74 t75 t76 t77 t78 t79 t80 t81 t82 t83 t84 t85 t86 t87 t88 t89 t90 t91 t92 t93 t94 t95 t96 t97 t98 t99 t100 t101 t102 t103 t104 t105 t106 t107 t108 t109 t110 t111 t112 t113 t114 t115 t116 t117 t118 t119 t120 t121 t122 t123 t124 t125 t126 t127 t128 t129 t130 t131 t132 t133 t134 t135 t136 t137 t138 t139 t140 t141 t142 t143 t144 t145 t146 t147 t148 t149 t150 t151 t152 t153 t154 t155 t156 t157 t158 t159 t160 t161 t162 t163 t164 t165 t166 t167 t168 t169 t170 t171 t172 t173 t174 t175 t176 t177 : Value} (HZ1 : Hid (DZ w W11 B g c L w.heap.size (w.heap.size + 1) q o m e gf F s0 (.slice ta 19 tc) (.slice la n lc) row)) (ha : a ≤ 40) (hb : b ≤ 40) (he : e ≠ 0) (HFIN : Hid (∀ e9, Hid (e9 = if false = true ∧ e = 0 then 3 else e) → R e9)) (hQ : ∀ (ch : List PanicEntry) (T1 T2 : Array Value) (D : List Deferred) (w : World), Q' (.panic ch) ⟨T1, D⟩ w → Q' (.panic ch) ⟨T2, D⟩ w)
    (hrest : Hid (∀ (s145 s146 s147 s148 s149 s150 s151 s152 s153 s154 s155 s156 s157 s158 s159 s160 s161 s162 s163 s164 : Value) (wx : World), (∃ e9 : Nat, DZ w wx B g c L w.heap.size (w.heap.size + 1) q o m e9 gf F s0 (.slice ta 19 tc) (.slice la n lc) row ∧ R e9) → K ⟨#[t0, .pointer (some ⟨w.heap.size, 0, none⟩), t2, t3, t4, .int .i64 (a : Int), .int .i64 (b : Int), t7, t8, t9, t10, t11, .slice la n lc, t13, t14, t15, t16, t17, t18, t19, t20, t21, t22, t23, t24, t25, t26, t27, t28, t29, t30, t31, t32, t33, t34, t35, t36, t37, t38, t39, t40, t41, t42, t43, t44, t45, t46, t47, t48, t49, t50, t51, t52, t53, t54, t55, t56, t57, t58, t59, t60, t61, t62, t63, t64, t65, t66, t67, t68, t69, t70, t71, t72, t73, t74, t75, t76, t77, t78, t79, t80, t81, t82, t83, t84, t85, t86, t87, t88, t89, t90, t91, t92, t93, t94, t95, t96, t97, t98, t99, t100, t101, t102, t103, t104, t105, t106, t107, t108, t109, t110, t111, t112, t113, t114, t115, t116, t117, t118, t119, t120, t121, t122, t123, t124, t125, t126, t127, t128, t129, t130, t131, t132, t133, t134, t135, t136, t137, t138, t139, t140, t141, t142, t143, t144, s145, s146, s147, s148, s149, s150, s151, s152, s153, s154, s155, s156, s157, s158, s159, s160, s161, s162, s163, s164, t165, t166, t167, t168, t169, t170, t171, t172, t173, t174, t175, t176, t177], []⟩ wx)) :
    Code.wp Tryz.prog body41 (Exit.then K Q') ⟨#[t0, .pointer (some ⟨w.heap.size, 0, none⟩), t2, t3, t4, .int .i64 (a : Int), .int .i64 (b : Int), t7, t8, t9, t10, t11, .slice la n lc, t13, t14, t15, t16, t17, t18, t19, t20, t21, t22, t23, t24, t25, t26, t27, t28, t29, t30, t31, t32, t33, t34, t35, t36, t37, t38, t39, t40, t41, t42, t43, t44, t45, t46, t47, t48, t49, t50, t51, t52, t53, t54, t55, t56, t57, t58, t59, t60, t61, t62, t63, t64, t65, t66, t67, t68, t69, t70, t71, t72, t73, t74, t75, t76, t77, t78, t79, t80, t81, t82, t83, t84, t85, t86, t87, t88, t89, t90, t91, t92, t93, t94, t95, t96, t97, t98, t99, t100, t101, t102, t103, t104, t105, t106, t107, t108, t109, t110, t111, t112, t113, t114, t115, t116, t117, t118, t119, t120, t121, t122, t123, t124, t125, t126, t127, t128, t129, t130, t131, t132, t133, t134, t135, t136, t137, t138, t139, t140, t141, t142, t143, t144, t145, t146, t147, t148, t149, t150, t151, t152, t153, t154, t155, t156, t157, t158, t159, t160, t161, t162, t163, t164, t165, t166, t167, t168, t169, t170, t171, t172, t173, t174, t175, t176, t177], []⟩ W11 := by
 conv => arg 2; whnf
 have HZ6 : Hid (DZ w W11.drew B g c L w.heap.size (w.heap.size + 1) q o m e gf F s0 (.slice ta 19 tc) (.slice la n lc) row) := HZ1.out.drew
 obtain ⟨⟨a0, a1, a2, a3, a4⟩, b0, b1, b2, b3, b4⟩ := qaa HZ1.out.dy.sb.bxh
 have hei : ((e : Int) == 0) = false := by simp; omega
 have HWR : Hid (Calls Tryz.prog 42 #[.agg #[.slice (some ⟨g, 0, none⟩) L.length c, .int .i64 (q : Int), .int .i64 (o : Int), .int .i64 (m : Int), .int .i64 (e : Int)], .bool false, .int .i64 3] W11.drew fun x9 w' => ∃ v, x9 = .returned v ∧ ∃ e9 : Nat, v = .agg #[.slice (some ⟨g, 0, none⟩) L.length c, .int .i64 (q : Int), .int .i64 (o : Int), .int .i64 (m : Int), .int .i64 (e9 : Int)] ∧ Hid (e9 = if false = true ∧ e = 0 then 3 else e) ∧ Below W11.drew.heap.size W11.drew w') := (qbi g L.length c q o m e (e : Int) rfl false 3 3 rfl W11.drew).mono (by rintro x w' ⟨e9, rfl, h9, hb⟩; exact ⟨_, rfl, e9, rfl, h9, hb⟩)
 refine wp_region_any (by kernel_rfl) ?_
 change wpAny _ _ _ _ 21 (Array.replicate 21 false) _ (World.drew _)
 refine qaq (i := 1) rfl (by kernel_rfl) (by kernel_rfl) (by kernel_rfl) (fun _ _ _ _ h => hQ _ _ _ _ _ h) 146 rfl (.pointer (some ⟨w.heap.size, 4, none⟩)) (Or.inl ⟨by rfl, by intro w; go_simp⟩) ?_
 simp only [Act.put, List.setIfInBounds_toArray, List.set_cons_zero, List.set_cons_succ]
 refine wpAny_ready (rs := [0, 2]) (by kernel_rfl) (by simp) ?_
 refine AllReady.cons rfl (fun K hK => ?oa) (AllReady.cons rfl (fun K hK => ?ob) AllReady.nil)
 case' oa =>
  refine qax rfl (some 145) rfl (v := .agg #[.slice (some ⟨g, 0, none⟩) L.length c, .int .i64 (q : Int), .int .i64 (o : Int), .int .i64 (m : Int), .int .i64 (e : Int)]) (w' := W11.drew) (by go_simp) (hK _ _ ?_)
  clear hK
  simp only [Act.put, List.setIfInBounds_toArray, List.set_cons_zero, List.set_cons_succ]
  refine wpAny_ready (rs := [2]) (by kernel_rfl) (by simp) ?_
  refine AllReady.cons rfl (fun K hK => ?_) AllReady.nil
  refine qax rfl (some 147) rfl (v := .int .i64 (e : Int)) (w' := W11.drew) (by go_simp) (hK _ _ ?_)
  clear hK
  simp only [Act.put, List.setIfInBounds_toArray, List.set_cons_zero, List.set_cons_succ]
 case' ob =>
  refine qax rfl (some 147) rfl (v := .int .i64 (e : Int)) (w' := W11.drew) (by go_simp) (hK _ _ ?_)
  clear hK
  simp only [Act.put, List.setIfInBounds_toArray, List.set_cons_zero, List.set_cons_succ]
 all_goals
  refine qaq (i := 3) rfl (by kernel_rfl) (by kernel_rfl) (by kernel_rfl) (fun _ _ _ _ h => hQ _ _ _ _ _ h) 148 rfl (.bool false) (Or.inl ⟨by rfl, by intro w; go_simp⟩) ?_
  simp only [Act.put, List.setIfInBounds_toArray, List.set_cons_zero, List.set_cons_succ]
  refine qaq (i := 4) rfl (by kernel_rfl) (by kernel_rfl) (by kernel_rfl) (fun _ _ _ _ h => hQ _ _ _ _ _ h) 149 rfl (.bool false) (Or.inl ⟨by rfl, by intro w; go_simp⟩) ?_
  simp only [Act.put, List.setIfInBounds_toArray, List.set_cons_zero, List.set_cons_succ]
  refine qaq (i := 5) rfl (by kernel_rfl) (by kernel_rfl) (by kernel_rfl) (fun _ _ _ _ h => hQ _ _ _ _ _ h) 150 rfl undef (Or.inr ⟨by rfl, rfl⟩) ?_
  simp only [Act.put, List.setIfInBounds_toArray, List.set_cons_zero, List.set_cons_succ]
  refine qaq (i := 6) rfl (by kernel_rfl) (by kernel_rfl) (by kernel_rfl) (fun _ _ _ _ h => hQ _ _ _ _ _ h) 151 rfl undef (Or.inr ⟨by rfl, rfl⟩) ?_
  simp only [Act.put, List.setIfInBounds_toArray, List.set_cons_zero, List.set_cons_succ]
  refine qaq (i := 7) rfl (by kernel_rfl) (by kernel_rfl) (by kernel_rfl) (fun _ _ _ _ h => hQ _ _ _ _ _ h) 152 rfl undef (Or.inr ⟨by rfl, rfl⟩) ?_
  simp only [Act.put, List.setIfInBounds_toArray, List.set_cons_zero, List.set_cons_succ]
  refine qaq (i := 8) rfl (by kernel_rfl) (by kernel_rfl) (by kernel_rfl) (fun _ _ _ _ h => hQ _ _ _ _ _ h) 153 rfl undef (Or.inr ⟨by rfl, rfl⟩) ?_
  simp only [Act.put, List.setIfInBounds_toArray, List.set_cons_zero, List.set_cons_succ]
  refine qaq (i := 9) rfl (by kernel_rfl) (by kernel_rfl) (by kernel_rfl) (fun _ _ _ _ h => hQ _ _ _ _ _ h) 154 rfl undef (Or.inr ⟨by rfl, rfl⟩) ?_
  simp only [Act.put, List.setIfInBounds_toArray, List.set_cons_zero, List.set_cons_succ]
  refine qaq (i := 10) rfl (by kernel_rfl) (by kernel_rfl) (by kernel_rfl) (fun _ _ _ _ h => hQ _ _ _ _ _ h) 155 rfl undef (Or.inr ⟨by rfl, rfl⟩) ?_
  simp only [Act.put, List.setIfInBounds_toArray, List.set_cons_zero, List.set_cons_succ]
  refine qaq (i := 11) rfl (by kernel_rfl) (by kernel_rfl) (by kernel_rfl) (fun _ _ _ _ h => hQ _ _ _ _ _ h) 156 rfl undef (Or.inr ⟨by rfl, rfl⟩) ?_
  simp only [Act.put, List.setIfInBounds_toArray, List.set_cons_zero, List.set_cons_succ]
  refine qaq (i := 12) rfl (by kernel_rfl) (by kernel_rfl) (by kernel_rfl) (fun _ _ _ _ h => hQ _ _ _ _ _ h) 157 rfl undef (Or.inr ⟨by rfl, rfl⟩) ?_
  simp only [Act.put, List.setIfInBounds_toArray, List.set_cons_zero, List.set_cons_succ]
  refine qaq (i := 13) rfl (by kernel_rfl) (by kernel_rfl) (by kernel_rfl) (fun _ _ _ _ h => hQ _ _ _ _ _ h) 158 rfl undef (Or.inr ⟨by rfl, rfl⟩) ?_
  simp only [Act.put, List.setIfInBounds_toArray, List.set_cons_zero, List.set_cons_succ]
  refine qaq (i := 14) rfl (by kernel_rfl) (by kernel_rfl) (by kernel_rfl) (fun _ _ _ _ h => hQ _ _ _ _ _ h) 159 rfl undef (Or.inr ⟨by rfl, rfl⟩) ?_
  simp only [Act.put, List.setIfInBounds_toArray, List.set_cons_zero, List.set_cons_succ]
  refine qaq (i := 15) rfl (by kernel_rfl) (by kernel_rfl) (by kernel_rfl) (fun _ _ _ _ h => hQ _ _ _ _ _ h) 160 rfl undef (Or.inr ⟨by rfl, rfl⟩) ?_
  simp only [Act.put, List.setIfInBounds_toArray, List.set_cons_zero, List.set_cons_succ]
  refine qaq (i := 16) rfl (by kernel_rfl) (by kernel_rfl) (by kernel_rfl) (fun _ _ _ _ h => hQ _ _ _ _ _ h) 161 rfl undef (Or.inr ⟨by rfl, rfl⟩) ?_
  simp only [Act.put, List.setIfInBounds_toArray, List.set_cons_zero, List.set_cons_succ]
  refine qaq (i := 17) rfl (by kernel_rfl) (by kernel_rfl) (by kernel_rfl) (fun _ _ _ _ h => hQ _ _ _ _ _ h) 162 rfl undef (Or.inr ⟨by rfl, rfl⟩) ?_
  simp only [Act.put, List.setIfInBounds_toArray, List.set_cons_zero, List.set_cons_succ]
  refine qaq (i := 18) rfl (by kernel_rfl) (by kernel_rfl) (by kernel_rfl) (fun _ _ _ _ h => hQ _ _ _ _ _ h) 163 rfl (.bool false) (Or.inl ⟨by rfl, by intro w; go_simp⟩) ?_
  simp only [Act.put, List.setIfInBounds_toArray, List.set_cons_zero, List.set_cons_succ]
 case' ob =>
  refine wpAny_ready (rs := [0]) (by kernel_rfl) (by simp) ?_
  refine AllReady.cons rfl (fun K hK => ?_) AllReady.nil
  refine qax rfl (some 145) rfl (v := .agg #[.slice (some ⟨g, 0, none⟩) L.length c, .int .i64 (q : Int), .int .i64 (o : Int), .int .i64 (m : Int), .int .i64 (e : Int)]) (w' := W11.drew) (by go_simp) (hK _ _ ?_)
  clear hK
  simp only [Act.put, List.setIfInBounds_toArray, List.set_cons_zero, List.set_cons_succ]
 all_goals
  refine wpAny_ready (rs := [19]) (by kernel_rfl) (by simp) ?_
  refine AllReady.cons rfl (fun K hK => ?_) AllReady.nil
  refine qg2 rfl (some 164) rfl 42 #[.agg #[.slice (some ⟨g, 0, none⟩) L.length c, .int .i64 (q : Int), .int .i64 (o : Int), .int .i64 (m : Int), .int .i64 (e : Int)], .bool false, .int .i64 3] (by intro w; go_simp) HWR.out ?_
  rintro v V ⟨e9, rfl, he9, hb⟩
  have hs := HZ6.out.call hb
  have ⟨⟨a0', a1', a2', a3', a4'⟩, b0', b1', b2', b3', b4'⟩ := qaa hs.dy.sb.bxh
  refine hK _ _ ?_
  clear hK
  simp only [Act.put, List.setIfInBounds_toArray, List.set_cons_zero, List.set_cons_succ]
  refine wpAny_ready (rs := [20]) (by kernel_rfl) (by simp) ?_
  refine AllReady.cons rfl (fun K hK => ?_) AllReady.nil
  refine armW rfl ?_
  go_simp
  refine hK _ _ ?_
  clear hK
  refine wpAny_done (by kernel_rfl) ?_ _
  have HQ : Hid _ := hs.put q o m e9
  clear hs hb
  go_wp2
  exact hrest.out _ _ _ _ _ _ _ _ _ _ _ _ _ _ _ _ _ _ _ _ _ ⟨e9, HQ.out, HFIN.out e9 he9⟩
theorem q2h {w W11 : World} {B g c : Nat} {L : List Bool} {q o m gf s0 a b n : Nat} {F row : List Nat} {ta la : Option Addr} {tc lc : Nat} {K : Act → World → Prop} {Q' : Exit → Act → World → Prop} (R : Nat → Prop) {t0 t2 t3 t4 t7 t8 t9 t10 t11 t13 t14 t15 t16 t17 t18 t19 t20 t21 t22 t23 t24 t25 t26 t27 t28 t29 t30 t31 t32 t33 t34 t35 t36 t37 t38 t39 t40 t41 t42 t43 t44 t45 t46 t47 t48 t49 t50 t51 t52 t53 t54 t55 t56 t57 t58 t59 t60 t61 t62 t63 t64 t65 t66 t67 t68 t69 t70 t71 t72 t73 t74 t75 t76 t77 t78 t79 t80 t81 t82 t83 t84 t85 t86 t87 t88 t89 t90 t91 t92 t93 t94 t95 t96 t97 t98 t99 t100 t101 t102 t103 t104 t105 t106 t107 t108 t109 t110 t111 t112 t113 t114 t115 t116 t117 t118 t119 t120 t121 t122 t123 t124 t125 t126 t127 t128 t129 t130 t131 t132 t133 t134 t135 t136 t137 t138 t139 t140 t141 t142 t143 t144 t145 t146 t147 t148 t149 t150 t151 t152 t153 t154 t155 t156 t157 t158 t159 t160 t161 t162 t163 t164 t165 t166 t167 t168 t169 t170 t171 t172 t173 t174 t175 t176 t177 : Value} (HZ1 : Hid (DZ w W11 B g c L w.heap.size (w.heap.size + 1) q o m 0 gf F s0 (.slice ta 19 tc) (.slice la n lc) row)) (ha : a ≤ 40) (hb : b ≤ 40) (h1 : a + b + 258 < n) (HFIN : Hid (∀ e9, Hid (e9 = if true = true ∧ 0 = 0 then 3 else 0) → R e9)) (hQ : ∀ (ch : List PanicEntry) (T1 T2 : Array Value) (D : List Deferred) (w : World), Q' (.panic ch) ⟨T1, D⟩ w → Q' (.panic ch) ⟨T2, D⟩ w)
    (hrest : Hid (∀ (s145 s146 s147 s148 s149 s150 s151 s152 s153 s154 s155 s156 s157 s158 s159 s160 s161 s162 s163 s164 : Value) (wx : World), (∃ e9 : Nat, DZ w wx B g c L w.heap.size (w.heap.size + 1) q o m e9 gf F s0 (.slice ta 19 tc) (.slice la n lc) row ∧ R e9) → K ⟨#[t0, .pointer (some ⟨w.heap.size, 0, none⟩), t2, t3, t4, .int .i64 (a : Int), .int .i64 (b : Int), t7, t8, t9, t10, t11, .slice la n lc, t13, t14, t15, t16, t17, t18, t19, t20, t21, t22, t23, t24, t25, t26, t27, t28, t29, t30, t31, t32, t33, t34, t35, t36, t37, t38, t39, t40, t41, t42, t43, t44, t45, t46, t47, t48, t49, t50, t51, t52, t53, t54, t55, t56, t57, t58, t59, t60, t61, t62, t63, t64, t65, t66, t67, t68, t69, t70, t71, t72, t73, t74, t75, t76, t77, t78, t79, t80, t81, t82, t83, t84, t85, t86, t87, t88, t89, t90, t91, t92, t93, t94, t95, t96, t97, t98, t99, t100, t101, t102, t103, t104, t105, t106, t107, t108, t109, t110, t111, t112, t113, t114, t115, t116, t117, t118, t119, t120, t121, t122, t123, t124, t125, t126, t127, t128, t129, t130, t131, t132, t133, t134, t135, t136, t137, t138, t139, t140, t141, t142, t143, t144, s145, s146, s147, s148, s149, s150, s151, s152, s153, s154, s155, s156, s157, s158, s159, s160, s161, s162, s163, s164, t165, t166, t167, t168, t169, t170, t171, t172, t173, t174, t175, t176, t177], []⟩ wx)) :
    Code.wp Tryz.prog body41 (Exit.then K Q') ⟨#[t0, .pointer (some ⟨w.heap.size, 0, none⟩), t2, t3, t4, .int .i64 (a : Int), .int .i64 (b : Int), t7, t8, t9, t10, t11, .slice la n lc, t13, t14, t15, t16, t17, t18, t19, t20, t21, t22, t23, t24, t25, t26, t27, t28, t29, t30, t31, t32, t33, t34, t35, t36, t37, t38, t39, t40, t41, t42, t43, t44, t45, t46, t47, t48, t49, t50, t51, t52, t53, t54, t55, t56, t57, t58, t59, t60, t61, t62, t63, t64, t65, t66, t67, t68, t69, t70, t71, t72, t73, t74, t75, t76, t77, t78, t79, t80, t81, t82, t83, t84, t85, t86, t87, t88, t89, t90, t91, t92, t93, t94, t95, t96, t97, t98, t99, t100, t101, t102, t103, t104, t105, t106, t107, t108, t109, t110, t111, t112, t113, t114, t115, t116, t117, t118, t119, t120, t121, t122, t123, t124, t125, t126, t127, t128, t129, t130, t131, t132, t133, t134, t135, t136, t137, t138, t139, t140, t141, t142, t143, t144, t145, t146, t147, t148, t149, t150, t151, t152, t153, t154, t155, t156, t157, t158, t159, t160, t161, t162, t163, t164, t165, t166, t167, t168, t169, t170, t171, t172, t173, t174, t175, t176, t177], []⟩ W11 := by
 conv => arg 2; whnf
 have HZ6 : Hid (DZ w W11.drew B g c L w.heap.size (w.heap.size + 1) q o m 0 gf F s0 (.slice ta 19 tc) (.slice la n lc) row) := HZ1.out.drew
 obtain ⟨⟨a0, a1, a2, a3, a4⟩, b0, b1, b2, b3, b4⟩ := qaa HZ1.out.dy.sb.bxh
 simp only [show ((0 : Nat) : Int) = 0 from rfl] at a4
 have hw1 : IntKind.i64.wrap ((a : Int) + (b : Int)) = (a : Int) + (b : Int) := by rw [IntKind.wrap_i64]; omega
 have hw2 : IntKind.i64.wrap ((a : Int) + (b : Int) + 258) = (a : Int) + (b : Int) + 258 := by rw [IntKind.wrap_i64]; omega
 have h1i : (a : Int) + (b : Int) + 258 < (n : Int) := by omega
 have HWR : Hid (Calls Tryz.prog 42 #[.agg #[.slice (some ⟨g, 0, none⟩) L.length c, .int .i64 (q : Int), .int .i64 (o : Int), .int .i64 (m : Int), .int .i64 0], .bool true, .int .i64 3] W11.drew fun x9 w' => ∃ v, x9 = .returned v ∧ ∃ e9 : Nat, v = .agg #[.slice (some ⟨g, 0, none⟩) L.length c, .int .i64 (q : Int), .int .i64 (o : Int), .int .i64 (m : Int), .int .i64 (e9 : Int)] ∧ Hid (e9 = if true = true ∧ 0 = 0 then 3 else 0) ∧ Below W11.drew.heap.size W11.drew w') := (qbi g L.length c q o m 0 0 rfl true 3 3 rfl W11.drew).mono (by rintro x w' ⟨e9, rfl, h9, hb⟩; exact ⟨_, rfl, e9, rfl, h9, hb⟩)
 refine wp_region_any (by kernel_rfl) ?_
 change wpAny _ _ _ _ 21 (Array.replicate 21 false) _ (World.drew _)
 refine qaq (i := 1) rfl (by kernel_rfl) (by kernel_rfl) (by kernel_rfl) (fun _ _ _ _ h => hQ _ _ _ _ _ h) 146 rfl (.pointer (some ⟨w.heap.size, 4, none⟩)) (Or.inl ⟨by rfl, by intro w; go_simp⟩) ?_
 simp only [Act.put, List.setIfInBounds_toArray, List.set_cons_zero, List.set_cons_succ]
 refine wpAny_ready (rs := [0, 2]) (by kernel_rfl) (by simp) ?_
 refine AllReady.cons rfl (fun K hK => ?oa) (AllReady.cons rfl (fun K hK => ?ob) AllReady.nil)
 case' oa =>
  refine qax rfl (some 145) rfl (v := .agg #[.slice (some ⟨g, 0, none⟩) L.length c, .int .i64 (q : Int), .int .i64 (o : Int), .int .i64 (m : Int), .int .i64 0]) (w' := W11.drew) (by go_simp) (hK _ _ ?_)
  clear hK
  simp only [Act.put, List.setIfInBounds_toArray, List.set_cons_zero, List.set_cons_succ]
  refine wpAny_ready (rs := [2]) (by kernel_rfl) (by simp) ?_
  refine AllReady.cons rfl (fun K hK => ?_) AllReady.nil
  refine qax rfl (some 147) rfl (v := .int .i64 0) (w' := W11.drew) (by go_simp) (hK _ _ ?_)
  clear hK
  simp only [Act.put, List.setIfInBounds_toArray, List.set_cons_zero, List.set_cons_succ]
 case' ob =>
  refine qax rfl (some 147) rfl (v := .int .i64 0) (w' := W11.drew) (by go_simp) (hK _ _ ?_)
  clear hK
  simp only [Act.put, List.setIfInBounds_toArray, List.set_cons_zero, List.set_cons_succ]
 all_goals
  refine qaq (i := 3) rfl (by kernel_rfl) (by kernel_rfl) (by kernel_rfl) (fun _ _ _ _ h => hQ _ _ _ _ _ h) 148 rfl (.bool true) (Or.inl ⟨by rfl, by intro w; go_simp⟩) ?_
  simp only [Act.put, List.setIfInBounds_toArray, List.set_cons_zero, List.set_cons_succ]
  refine qaq (i := 4) rfl (by kernel_rfl) (by kernel_rfl) (by kernel_rfl) (fun _ _ _ _ h => hQ _ _ _ _ _ h) 149 rfl (.bool true) (Or.inl ⟨by rfl, by intro w; go_simp⟩) ?_
  simp only [Act.put, List.setIfInBounds_toArray, List.set_cons_zero, List.set_cons_succ]
  refine qaq (i := 5) rfl (by kernel_rfl) (by kernel_rfl) (by kernel_rfl) (fun _ _ _ _ h => hQ _ _ _ _ _ h) 150 rfl (.slice la n lc) (Or.inl ⟨by rfl, by intro w; go_simp⟩) ?_
  simp only [Act.put, List.setIfInBounds_toArray, List.set_cons_zero, List.set_cons_succ]
  refine qaq (i := 6) rfl (by kernel_rfl) (by kernel_rfl) (by kernel_rfl) (fun _ _ _ _ h => hQ _ _ _ _ _ h) 151 rfl (.int .i64 (n : Int)) (Or.inl ⟨by rfl, by intro w; go_simp⟩) ?_
  simp only [Act.put, List.setIfInBounds_toArray, List.set_cons_zero, List.set_cons_succ]
  refine qaq (i := 7) rfl (by kernel_rfl) (by kernel_rfl) (by kernel_rfl) (fun _ _ _ _ h => hQ _ _ _ _ _ h) 152 rfl (.int .i64 (a : Int)) (Or.inl ⟨by rfl, by intro w; go_simp⟩) ?_
  simp only [Act.put, List.setIfInBounds_toArray, List.set_cons_zero, List.set_cons_succ]
  refine qaq (i := 8) rfl (by kernel_rfl) (by kernel_rfl) (by kernel_rfl) (fun _ _ _ _ h => hQ _ _ _ _ _ h) 153 rfl (.int .i64 (b : Int)) (Or.inl ⟨by rfl, by intro w; go_simp⟩) ?_
  simp only [Act.put, List.setIfInBounds_toArray, List.set_cons_zero, List.set_cons_succ]
  refine qaq (i := 9) rfl (by kernel_rfl) (by kernel_rfl) (by kernel_rfl) (fun _ _ _ _ h => hQ _ _ _ _ _ h) 154 rfl (.int .i64 ((a : Int) + (b : Int))) (Or.inl ⟨by rfl, by intro w; go_simp⟩) ?_
  simp only [Act.put, List.setIfInBounds_toArray, List.set_cons_zero, List.set_cons_succ]
  refine qaq (i := 10) rfl (by kernel_rfl) (by kernel_rfl) (by kernel_rfl) (fun _ _ _ _ h => hQ _ _ _ _ _ h) 155 rfl (.int .i64 ((a : Int) + (b : Int) + 258)) (Or.inl ⟨by rfl, by intro w; go_simp⟩) ?_
  simp only [Act.put, List.setIfInBounds_toArray, List.set_cons_zero, List.set_cons_succ]
  refine qaq (i := 11) rfl (by kernel_rfl) (by kernel_rfl) (by kernel_rfl) (fun _ _ _ _ h => hQ _ _ _ _ _ h) 156 rfl (.bool true) (Or.inl ⟨by rfl, by intro w; go_simp⟩) ?_
  simp only [Act.put, List.setIfInBounds_toArray, List.set_cons_zero, List.set_cons_succ]
  refine qaq (i := 12) rfl (by kernel_rfl) (by kernel_rfl) (by kernel_rfl) (fun _ _ _ _ h => hQ _ _ _ _ _ h) 157 rfl (.bool true) (Or.inl ⟨by rfl, by intro w; go_simp⟩) ?_
  simp only [Act.put, List.setIfInBounds_toArray, List.set_cons_zero, List.set_cons_succ]
  refine qaq (i := 13) rfl (by kernel_rfl) (by kernel_rfl) (by kernel_rfl) (fun _ _ _ _ h => hQ _ _ _ _ _ h) 158 rfl undef (Or.inr ⟨by rfl, rfl⟩) ?_
  simp only [Act.put, List.setIfInBounds_toArray, List.set_cons_zero, List.set_cons_succ]
  refine qaq (i := 14) rfl (by kernel_rfl) (by kernel_rfl) (by kernel_rfl) (fun _ _ _ _ h => hQ _ _ _ _ _ h) 159 rfl undef (Or.inr ⟨by rfl, rfl⟩) ?_
  simp only [Act.put, List.setIfInBounds_toArray, List.set_cons_zero, List.set_cons_succ]
  refine qaq (i := 15) rfl (by kernel_rfl) (by kernel_rfl) (by kernel_rfl) (fun _ _ _ _ h => hQ _ _ _ _ _ h) 160 rfl undef (Or.inr ⟨by rfl, rfl⟩) ?_
  simp only [Act.put, List.setIfInBounds_toArray, List.set_cons_zero, List.set_cons_succ]
  refine qaq (i := 16) rfl (by kernel_rfl) (by kernel_rfl) (by kernel_rfl) (fun _ _ _ _ h => hQ _ _ _ _ _ h) 161 rfl undef (Or.inr ⟨by rfl, rfl⟩) ?_
  simp only [Act.put, List.setIfInBounds_toArray, List.set_cons_zero, List.set_cons_succ]
  refine qaq (i := 17) rfl (by kernel_rfl) (by kernel_rfl) (by kernel_rfl) (fun _ _ _ _ h => hQ _ _ _ _ _ h) 162 rfl (.bool true) (Or.inl ⟨by rfl, by intro w; go_simp⟩) ?_
  simp only [Act.put, List.setIfInBounds_toArray, List.set_cons_zero, List.set_cons_succ]
  refine qaq (i := 18) rfl (by kernel_rfl) (by kernel_rfl) (by kernel_rfl) (fun _ _ _ _ h => hQ _ _ _ _ _ h) 163 rfl (.bool true) (Or.inl ⟨by rfl, by intro w; go_simp⟩) ?_
  simp only [Act.put, List.setIfInBounds_toArray, List.set_cons_zero, List.set_cons_succ]
 case' ob =>
  refine wpAny_ready (rs := [0]) (by kernel_rfl) (by simp) ?_
  refine AllReady.cons rfl (fun K hK => ?_) AllReady.nil
  refine qax rfl (some 145) rfl (v := .agg #[.slice (some ⟨g, 0, none⟩) L.length c, .int .i64 (q : Int), .int .i64 (o : Int), .int .i64 (m : Int), .int .i64 0]) (w' := W11.drew) (by go_simp) (hK _ _ ?_)
  clear hK
  simp only [Act.put, List.setIfInBounds_toArray, List.set_cons_zero, List.set_cons_succ]
 all_goals
  refine wpAny_ready (rs := [19]) (by kernel_rfl) (by simp) ?_
  refine AllReady.cons rfl (fun K hK => ?_) AllReady.nil
  refine qg2 rfl (some 164) rfl 42 #[.agg #[.slice (some ⟨g, 0, none⟩) L.length c, .int .i64 (q : Int), .int .i64 (o : Int), .int .i64 (m : Int), .int .i64 0], .bool true, .int .i64 3] (by intro w; go_simp) HWR.out ?_
  rintro v V ⟨e9, rfl, he9, hb⟩
  have hs := HZ6.out.call hb
  have ⟨⟨a0', a1', a2', a3', a4'⟩, b0', b1', b2', b3', b4'⟩ := qaa hs.dy.sb.bxh
  refine hK _ _ ?_
  clear hK
  simp only [Act.put, List.setIfInBounds_toArray, List.set_cons_zero, List.set_cons_succ]
  refine wpAny_ready (rs := [20]) (by kernel_rfl) (by simp) ?_
  refine AllReady.cons rfl (fun K hK => ?_) AllReady.nil
  refine armW rfl ?_
  go_simp
  refine hK _ _ ?_
  clear hK
  refine wpAny_done (by kernel_rfl) ?_ _
  have HQ : Hid _ := hs.put q o m e9
  clear hs hb
  go_wp2
  exact hrest.out _ _ _ _ _ _ _ _ _ _ _ _ _ _ _ _ _ _ _ _ _ ⟨e9, HQ.out, HFIN.out e9 he9⟩
theorem q2g {w W11 : World} {B g c : Nat} {L : List Bool} {q o m gf s0 a b n : Nat} {F row : List Nat} {ta la : Option Addr} {tc lc : Nat} {K : Act → World → Prop} {Q' : Exit → Act → World → Prop} (R : Nat → Prop) {t0 t2 t3 t4 t7 t8 t9 t10 t11 t13 t14 t15 t16 t17 t18 t19 t20 t21 t22 t23 t24 t25 t26 t27 t28 t29 t30 t31 t32 t33 t34 t35 t36 t37 t38 t39 t40 t41 t42 t43 t44 t45 t46 t47 t48 t49 t50 t51 t52 t53 t54 t55 t56 t57 t58 t59 t60 t61 t62 t63 t64 t65 t66 t67 t68 t69 t70 t71 t72 t73 t74 t75 t76 t77 t78 t79 t80 t81 t82 t83 t84 t85 t86 t87 t88 t89 t90 t91 t92 t93 t94 t95 t96 t97 t98 t99 t100 t101 t102 t103 t104 t105 t106 t107 t108 t109 t110 t111 t112 t113 t114 t115 t116 t117 t118 t119 t120 t121 t122 t123 t124 t125 t126 t127 t128 t129 t130 t131 t132 t133 t134 t135 t136 t137 t138 t139 t140 t141 t142 t143 t144 t145 t146 t147 t148 t149 t150 t151 t152 t153 t154 t155 t156 t157 t158 t159 t160 t161 t162 t163 t164 t165 t166 t167 t168 t169 t170 t171 t172 t173 t174 t175 t176 t177 : Value} (HZ1 : Hid (DZ w W11 B g c L w.heap.size (w.heap.size + 1) q o m 0 gf F s0 (.slice ta 19 tc) (.slice la n lc) row)) (ha : a ≤ 40) (hb : b ≤ 40) (bz : Bool) (h1 : n = a + b + 258) (hn : n = row.length) (hz : (((row.getD 256 0 : Nat) : Int) == 0) = bz) (HFIN : Hid (∀ e9, Hid (e9 = if bz = true ∧ 0 = 0 then 3 else 0) → R e9)) (hQ : ∀ (ch : List PanicEntry) (T1 T2 : Array Value) (D : List Deferred) (w : World), Q' (.panic ch) ⟨T1, D⟩ w → Q' (.panic ch) ⟨T2, D⟩ w)
    (hrest : Hid (∀ (s145 s146 s147 s148 s149 s150 s151 s152 s153 s154 s155 s156 s157 s158 s159 s160 s161 s162 s163 s164 : Value) (wx : World), (∃ e9 : Nat, DZ w wx B g c L w.heap.size (w.heap.size + 1) q o m e9 gf F s0 (.slice ta 19 tc) (.slice la n lc) row ∧ R e9) → K ⟨#[t0, .pointer (some ⟨w.heap.size, 0, none⟩), t2, t3, t4, .int .i64 (a : Int), .int .i64 (b : Int), t7, t8, t9, t10, t11, .slice la n lc, t13, t14, t15, t16, t17, t18, t19, t20, t21, t22, t23, t24, t25, t26, t27, t28, t29, t30, t31, t32, t33, t34, t35, t36, t37, t38, t39, t40, t41, t42, t43, t44, t45, t46, t47, t48, t49, t50, t51, t52, t53, t54, t55, t56, t57, t58, t59, t60, t61, t62, t63, t64, t65, t66, t67, t68, t69, t70, t71, t72, t73, t74, t75, t76, t77, t78, t79, t80, t81, t82, t83, t84, t85, t86, t87, t88, t89, t90, t91, t92, t93, t94, t95, t96, t97, t98, t99, t100, t101, t102, t103, t104, t105, t106, t107, t108, t109, t110, t111, t112, t113, t114, t115, t116, t117, t118, t119, t120, t121, t122, t123, t124, t125, t126, t127, t128, t129, t130, t131, t132, t133, t134, t135, t136, t137, t138, t139, t140, t141, t142, t143, t144, s145, s146, s147, s148, s149, s150, s151, s152, s153, s154, s155, s156, s157, s158, s159, s160, s161, s162, s163, s164, t165, t166, t167, t168, t169, t170, t171, t172, t173, t174, t175, t176, t177], []⟩ wx)) :
    Code.wp Tryz.prog body41 (Exit.then K Q') ⟨#[t0, .pointer (some ⟨w.heap.size, 0, none⟩), t2, t3, t4, .int .i64 (a : Int), .int .i64 (b : Int), t7, t8, t9, t10, t11, .slice la n lc, t13, t14, t15, t16, t17, t18, t19, t20, t21, t22, t23, t24, t25, t26, t27, t28, t29, t30, t31, t32, t33, t34, t35, t36, t37, t38, t39, t40, t41, t42, t43, t44, t45, t46, t47, t48, t49, t50, t51, t52, t53, t54, t55, t56, t57, t58, t59, t60, t61, t62, t63, t64, t65, t66, t67, t68, t69, t70, t71, t72, t73, t74, t75, t76, t77, t78, t79, t80, t81, t82, t83, t84, t85, t86, t87, t88, t89, t90, t91, t92, t93, t94, t95, t96, t97, t98, t99, t100, t101, t102, t103, t104, t105, t106, t107, t108, t109, t110, t111, t112, t113, t114, t115, t116, t117, t118, t119, t120, t121, t122, t123, t124, t125, t126, t127, t128, t129, t130, t131, t132, t133, t134, t135, t136, t137, t138, t139, t140, t141, t142, t143, t144, t145, t146, t147, t148, t149, t150, t151, t152, t153, t154, t155, t156, t157, t158, t159, t160, t161, t162, t163, t164, t165, t166, t167, t168, t169, t170, t171, t172, t173, t174, t175, t176, t177], []⟩ W11 := by
 conv => arg 2; whnf
 have HZ6 : Hid (DZ w W11.drew B g c L w.heap.size (w.heap.size + 1) q o m 0 gf F s0 (.slice ta 19 tc) (.slice la n lc) row) := HZ1.out.drew
 obtain ⟨⟨a0, a1, a2, a3, a4⟩, b0, b1, b2, b3, b4⟩ := qaa HZ1.out.dy.sb.bxh
 simp only [show ((0 : Nat) : Int) = 0 from rfl] at a4
 have hw1 : IntKind.i64.wrap ((a : Int) + (b : Int)) = (a : Int) + (b : Int) := by rw [IntKind.wrap_i64]; omega
 have hw2 : IntKind.i64.wrap ((a : Int) + (b : Int) + 258) = (a : Int) + (b : Int) + 258 := by rw [IntKind.wrap_i64]; omega
 have h1i : ¬ (a : Int) + (b : Int) + 258 < (n : Int) := by omega
 obtain ⟨gl, hla, hnc, hgl, hcl⟩ := HZ1.out.cell hn (by omega)
 subst hla
 have c256 := hcl 256 (by omega)
 have h256 : (256 : Int) < (n : Int) := by omega
 clear hcl hgl hnc
 obtain ⟨x256, hx256⟩ : ∃ x, x = row.getD 256 0 := ⟨_, rfl⟩
 rw [← hx256] at c256 hz
 clear hx256 h1 hn
 have HWR : Hid (Calls Tryz.prog 42 #[.agg #[.slice (some ⟨g, 0, none⟩) L.length c, .int .i64 (q : Int), .int .i64 (o : Int), .int .i64 (m : Int), .int .i64 0], .bool bz, .int .i64 3] W11.drew fun x9 w' => ∃ v, x9 = .returned v ∧ ∃ e9 : Nat, v = .agg #[.slice (some ⟨g, 0, none⟩) L.length c, .int .i64 (q : Int), .int .i64 (o : Int), .int .i64 (m : Int), .int .i64 (e9 : Int)] ∧ Hid (e9 = if bz = true ∧ 0 = 0 then 3 else 0) ∧ Below W11.drew.heap.size W11.drew w') := (qbi g L.length c q o m 0 0 rfl bz 3 3 rfl W11.drew).mono (by rintro x w' ⟨e9, rfl, h9, hb⟩; exact ⟨_, rfl, e9, rfl, h9, hb⟩)
 refine wp_region_any (by kernel_rfl) ?_
 change wpAny _ _ _ _ 21 (Array.replicate 21 false) _ (World.drew _)
 refine qaq (i := 1) rfl (by kernel_rfl) (by kernel_rfl) (by kernel_rfl) (fun _ _ _ _ h => hQ _ _ _ _ _ h) 146 rfl (.pointer (some ⟨w.heap.size, 4, none⟩)) (Or.inl ⟨by rfl, by intro w; go_simp⟩) ?_
 simp only [Act.put, List.setIfInBounds_toArray, List.set_cons_zero, List.set_cons_succ]
 refine wpAny_ready (rs := [0, 2]) (by kernel_rfl) (by simp) ?_
 refine AllReady.cons rfl (fun K hK => ?oa) (AllReady.cons rfl (fun K hK => ?ob) AllReady.nil)
 case' oa =>
  refine qax rfl (some 145) rfl (v := .agg #[.slice (some ⟨g, 0, none⟩) L.length c, .int .i64 (q : Int), .int .i64 (o : Int), .int .i64 (m : Int), .int .i64 0]) (w' := W11.drew) (by go_simp) (hK _ _ ?_)
  clear hK
  simp only [Act.put, List.setIfInBounds_toArray, List.set_cons_zero, List.set_cons_succ]
  refine wpAny_ready (rs := [2]) (by kernel_rfl) (by simp) ?_
  refine AllReady.cons rfl (fun K hK => ?_) AllReady.nil
  refine qax rfl (some 147) rfl (v := .int .i64 0) (w' := W11.drew) (by go_simp) (hK _ _ ?_)
  clear hK
  simp only [Act.put, List.setIfInBounds_toArray, List.set_cons_zero, List.set_cons_succ]
 case' ob =>
  refine qax rfl (some 147) rfl (v := .int .i64 0) (w' := W11.drew) (by go_simp) (hK _ _ ?_)
  clear hK
  simp only [Act.put, List.setIfInBounds_toArray, List.set_cons_zero, List.set_cons_succ]
 all_goals
  refine qaq (i := 3) rfl (by kernel_rfl) (by kernel_rfl) (by kernel_rfl) (fun _ _ _ _ h => hQ _ _ _ _ _ h) 148 rfl (.bool true) (Or.inl ⟨by rfl, by intro w; go_simp⟩) ?_
  simp only [Act.put, List.setIfInBounds_toArray, List.set_cons_zero, List.set_cons_succ]
  refine qaq (i := 4) rfl (by kernel_rfl) (by kernel_rfl) (by kernel_rfl) (fun _ _ _ _ h => hQ _ _ _ _ _ h) 149 rfl (.bool true) (Or.inl ⟨by rfl, by intro w; go_simp⟩) ?_
  simp only [Act.put, List.setIfInBounds_toArray, List.set_cons_zero, List.set_cons_succ]
  refine qaq (i := 5) rfl (by kernel_rfl) (by kernel_rfl) (by kernel_rfl) (fun _ _ _ _ h => hQ _ _ _ _ _ h) 150 rfl (.slice (some ⟨gl, 0, none⟩) n lc) (Or.inl ⟨by rfl, by intro w; go_simp⟩) ?_
  simp only [Act.put, List.setIfInBounds_toArray, List.set_cons_zero, List.set_cons_succ]
  refine qaq (i := 6) rfl (by kernel_rfl) (by kernel_rfl) (by kernel_rfl) (fun _ _ _ _ h => hQ _ _ _ _ _ h) 151 rfl (.int .i64 (n : Int)) (Or.inl ⟨by rfl, by intro w; go_simp⟩) ?_
  simp only [Act.put, List.setIfInBounds_toArray, List.set_cons_zero, List.set_cons_succ]
  refine qaq (i := 7) rfl (by kernel_rfl) (by kernel_rfl) (by kernel_rfl) (fun _ _ _ _ h => hQ _ _ _ _ _ h) 152 rfl (.int .i64 (a : Int)) (Or.inl ⟨by rfl, by intro w; go_simp⟩) ?_
  simp only [Act.put, List.setIfInBounds_toArray, List.set_cons_zero, List.set_cons_succ]
  refine qaq (i := 8) rfl (by kernel_rfl) (by kernel_rfl) (by kernel_rfl) (fun _ _ _ _ h => hQ _ _ _ _ _ h) 153 rfl (.int .i64 (b : Int)) (Or.inl ⟨by rfl, by intro w; go_simp⟩) ?_
  simp only [Act.put, List.setIfInBounds_toArray, List.set_cons_zero, List.set_cons_succ]
  refine qaq (i := 9) rfl (by kernel_rfl) (by kernel_rfl) (by kernel_rfl) (fun _ _ _ _ h => hQ _ _ _ _ _ h) 154 rfl (.int .i64 ((a : Int) + (b : Int))) (Or.inl ⟨by rfl, by intro w; go_simp⟩) ?_
  simp only [Act.put, List.setIfInBounds_toArray, List.set_cons_zero, List.set_cons_succ]
  refine qaq (i := 10) rfl (by kernel_rfl) (by kernel_rfl) (by kernel_rfl) (fun _ _ _ _ h => hQ _ _ _ _ _ h) 155 rfl (.int .i64 ((a : Int) + (b : Int) + 258)) (Or.inl ⟨by rfl, by intro w; go_simp⟩) ?_
  simp only [Act.put, List.setIfInBounds_toArray, List.set_cons_zero, List.set_cons_succ]
  refine qaq (i := 11) rfl (by kernel_rfl) (by kernel_rfl) (by kernel_rfl) (fun _ _ _ _ h => hQ _ _ _ _ _ h) 156 rfl (.bool false) (Or.inl ⟨by rfl, by intro w; go_simp⟩) ?_
  simp only [Act.put, List.setIfInBounds_toArray, List.set_cons_zero, List.set_cons_succ]
  refine qaq (i := 12) rfl (by kernel_rfl) (by kernel_rfl) (by kernel_rfl) (fun _ _ _ _ h => hQ _ _ _ _ _ h) 157 rfl (.bool false) (Or.inl ⟨by rfl, by intro w; go_simp⟩) ?_
  simp only [Act.put, List.setIfInBounds_toArray, List.set_cons_zero, List.set_cons_succ]
  refine qaq (i := 13) rfl (by kernel_rfl) (by kernel_rfl) (by kernel_rfl) (fun _ _ _ _ h => hQ _ _ _ _ _ h) 158 rfl (.slice (some ⟨gl, 0, none⟩) n lc) (Or.inl ⟨by rfl, by intro w; go_simp⟩) ?_
  simp only [Act.put, List.setIfInBounds_toArray, List.set_cons_zero, List.set_cons_succ]
 case' ob =>
  refine wpAny_ready (rs := [0, 14]) (by kernel_rfl) (by simp) ?_
  refine AllReady.cons rfl (fun K hK => ?oc) (AllReady.cons rfl (fun K hK => ?od) AllReady.nil)
 case' oc =>
  refine qax rfl (some 145) rfl (v := .agg #[.slice (some ⟨g, 0, none⟩) L.length c, .int .i64 (q : Int), .int .i64 (o : Int), .int .i64 (m : Int), .int .i64 0]) (w' := W11.drew) (by go_simp) (hK _ _ ?_)
  clear hK
  simp only [Act.put, List.setIfInBounds_toArray, List.set_cons_zero, List.set_cons_succ]
  refine wpAny_ready (rs := [14]) (by kernel_rfl) (by simp) ?_
  refine AllReady.cons rfl (fun K hK => ?_) AllReady.nil
  refine qcl (by rfl) (some 159) rfl (v := .pointer (some ⟨gl, 256, none⟩)) (w' := W11.drew) (by go_simp) (hK _ _ ?_)
  clear hK
  simp only [Act.put, List.setIfInBounds_toArray, List.set_cons_zero, List.set_cons_succ]
 case' oa =>
  refine wpAny_ready (rs := [14]) (by kernel_rfl) (by simp) ?_
  refine AllReady.cons rfl (fun K hK => ?_) AllReady.nil
  refine qcl (by rfl) (some 159) rfl (v := .pointer (some ⟨gl, 256, none⟩)) (w' := W11.drew) (by go_simp) (hK _ _ ?_)
  clear hK
  simp only [Act.put, List.setIfInBounds_toArray, List.set_cons_zero, List.set_cons_succ]
 case' od =>
  refine qcl (by rfl) (some 159) rfl (v := .pointer (some ⟨gl, 256, none⟩)) (w' := W11.drew) (by go_simp) (hK _ _ ?_)
  clear hK
  simp only [Act.put, List.setIfInBounds_toArray, List.set_cons_zero, List.set_cons_succ]
  refine wpAny_ready (rs := [0, 15]) (by kernel_rfl) (by simp) ?_
  refine AllReady.cons rfl (fun K hK => ?oe) (AllReady.cons rfl (fun K hK => ?of) AllReady.nil)
 case' oe =>
  refine qax rfl (some 145) rfl (v := .agg #[.slice (some ⟨g, 0, none⟩) L.length c, .int .i64 (q : Int), .int .i64 (o : Int), .int .i64 (m : Int), .int .i64 0]) (w' := W11.drew) (by go_simp) (hK _ _ ?_)
  clear hK
  simp only [Act.put, List.setIfInBounds_toArray, List.set_cons_zero, List.set_cons_succ]
  refine wpAny_ready (rs := [15]) (by kernel_rfl) (by simp) ?_
  refine AllReady.cons rfl (fun K hK => ?_) AllReady.nil
  refine qcl (by rfl) (some 160) rfl (v := .int .i64 (x256 : Int)) (w' := W11.drew) (by go_simp) (hK _ _ ?_)
  clear hK
  simp only [Act.put, List.setIfInBounds_toArray, List.set_cons_zero, List.set_cons_succ]
 case' oa =>
  refine wpAny_ready (rs := [15]) (by kernel_rfl) (by simp) ?_
  refine AllReady.cons rfl (fun K hK => ?_) AllReady.nil
  refine qcl (by rfl) (some 160) rfl (v := .int .i64 (x256 : Int)) (w' := W11.drew) (by go_simp) (hK _ _ ?_)
  clear hK
  simp only [Act.put, List.setIfInBounds_toArray, List.set_cons_zero, List.set_cons_succ]
 case' oc =>
  refine wpAny_ready (rs := [15]) (by kernel_rfl) (by simp) ?_
  refine AllReady.cons rfl (fun K hK => ?_) AllReady.nil
  refine qcl (by rfl) (some 160) rfl (v := .int .i64 (x256 : Int)) (w' := W11.drew) (by go_simp) (hK _ _ ?_)
  clear hK
  simp only [Act.put, List.setIfInBounds_toArray, List.set_cons_zero, List.set_cons_succ]
 case' of =>
  refine qcl (by rfl) (some 160) rfl (v := .int .i64 (x256 : Int)) (w' := W11.drew) (by go_simp) (hK _ _ ?_)
  clear hK
  simp only [Act.put, List.setIfInBounds_toArray, List.set_cons_zero, List.set_cons_succ]
 all_goals
  refine qaq (i := 16) rfl (by kernel_rfl) (by kernel_rfl) (by kernel_rfl) (fun _ _ _ _ h => hQ _ _ _ _ _ h) 161 rfl (.bool bz) (Or.inl ⟨by rfl, by intro w; go_simp⟩) ?_
  simp only [Act.put, List.setIfInBounds_toArray, List.set_cons_zero, List.set_cons_succ]
  refine qaq (i := 17) rfl (by kernel_rfl) (by kernel_rfl) (by kernel_rfl) (fun _ _ _ _ h => hQ _ _ _ _ _ h) 162 rfl (.bool bz) (Or.inl ⟨by rfl, by intro w; go_simp⟩) ?_
  simp only [Act.put, List.setIfInBounds_toArray, List.set_cons_zero, List.set_cons_succ]
  refine qaq (i := 18) rfl (by kernel_rfl) (by kernel_rfl) (by kernel_rfl) (fun _ _ _ _ h => hQ _ _ _ _ _ h) 163 rfl (.bool bz) (Or.inl ⟨by rfl, by intro w; go_simp⟩) ?_
  simp only [Act.put, List.setIfInBounds_toArray, List.set_cons_zero, List.set_cons_succ]
 case' of =>
  refine wpAny_ready (rs := [0]) (by kernel_rfl) (by simp) ?_
  refine AllReady.cons rfl (fun K hK => ?_) AllReady.nil
  refine qax rfl (some 145) rfl (v := .agg #[.slice (some ⟨g, 0, none⟩) L.length c, .int .i64 (q : Int), .int .i64 (o : Int), .int .i64 (m : Int), .int .i64 0]) (w' := W11.drew) (by go_simp) (hK _ _ ?_)
  clear hK
  simp only [Act.put, List.setIfInBounds_toArray, List.set_cons_zero, List.set_cons_succ]
 all_goals
  refine wpAny_ready (rs := [19]) (by kernel_rfl) (by simp) ?_
  refine AllReady.cons rfl (fun K hK => ?_) AllReady.nil
  refine qg2 rfl (some 164) rfl 42 #[.agg #[.slice (some ⟨g, 0, none⟩) L.length c, .int .i64 (q : Int), .int .i64 (o : Int), .int .i64 (m : Int), .int .i64 0], .bool bz, .int .i64 3] (by intro w; go_simp) HWR.out ?_
  rintro v V ⟨e9, rfl, he9, hb⟩
  have hs := HZ6.out.call hb
  have ⟨⟨a0', a1', a2', a3', a4'⟩, b0', b1', b2', b3', b4'⟩ := qaa hs.dy.sb.bxh
  refine hK _ _ ?_
  clear hK
  simp only [Act.put, List.setIfInBounds_toArray, List.set_cons_zero, List.set_cons_succ]
  refine wpAny_ready (rs := [20]) (by kernel_rfl) (by simp) ?_
  refine AllReady.cons rfl (fun K hK => ?_) AllReady.nil
  refine armW rfl ?_
  go_simp
  refine hK _ _ ?_
  clear hK
  refine wpAny_done (by kernel_rfl) ?_ _
  have HQ : Hid _ := hs.put q o m e9
  clear hs hb
  go_wp2
  exact hrest.out _ _ _ _ _ _ _ _ _ _ _ _ _ _ _ _ _ _ _ _ _ ⟨e9, HQ.out, HFIN.out e9 he9⟩
theorem q2j {w W11 : World} {B g c : Nat} {L : List Bool} {q o m gf s0 a b n : Nat} {F row : List Nat} {ta la : Option Addr} {tc lc : Nat} {K : Act → World → Prop} {Q' : Exit → Act → World → Prop} {t0 t2 t3 t4 t7 t8 t9 t10 t11 t13 t14 t15 t16 t17 t18 t19 t20 t21 t22 t23 t24 t25 t26 t27 t28 t29 t30 t31 t32 t33 t34 t35 t36 t37 t38 t39 t40 t41 t42 t43 t44 t45 t46 t47 t48 t49 t50 t51 t52 t53 t54 t55 t56 t57 t58 t59 t60 t61 t62 t63 t64 t65 t66 t67 t68 t69 t70 t71 t72 t73 t74 t75 t76 t77 t78 t79 t80 t81 t82 t83 t84 t85 t86 t87 t88 t89 t90 t91 t92 t93 t94 t95 t96 t97 t98 t99 t100 t101 t102 t103 t104 t105 t106 t107 t108 t109 t110 t111 t112 t113 t114 t115 t116 t117 t118 t119 t120 t121 t122 t123 t124 t125 t126 t127 t128 t129 t130 t131 t132 t133 t134 t135 t136 t137 t138 t139 t140 t141 t142 t143 t144 t145 t146 t147 t148 t149 t150 t151 t152 t153 t154 t155 t156 t157 t158 t159 t160 t161 t162 t163 t164 t165 t166 t167 t168 t169 t170 t171 t172 t173 t174 t175 t176 t177 : Value} (HZ1 : Hid (DZ w W11 B g c L w.heap.size (w.heap.size + 1) q o m 0 gf F s0 (.slice ta 19 tc) (.slice la n lc) row)) (ha : a ≤ 40) (hb : b ≤ 40) (hnn : a + b + 258 ≤ n) (hn : n = row.length) (hQ : ∀ (ch : List PanicEntry) (T1 T2 : Array Value) (D : List Deferred) (w : World), Q' (.panic ch) ⟨T1, D⟩ w → Q' (.panic ch) ⟨T2, D⟩ w)
    (hrest : Hid (∀ (s145 s146 s147 s148 s149 s150 s151 s152 s153 s154 s155 s156 s157 s158 s159 s160 s161 s162 s163 s164 : Value) (wx : World), (∃ e9 : Nat, DZ w wx B g c L w.heap.size (w.heap.size + 1) q o m e9 gf F s0 (.slice ta 19 tc) (.slice la n lc) row ∧ Hid (e9 = if a + b + 258 < n ∨ row.getD 256 0 = 0 then 3 else 0)) → K ⟨#[t0, .pointer (some ⟨w.heap.size, 0, none⟩), t2, t3, t4, .int .i64 (a : Int), .int .i64 (b : Int), t7, t8, t9, t10, t11, .slice la n lc, t13, t14, t15, t16, t17, t18, t19, t20, t21, t22, t23, t24, t25, t26, t27, t28, t29, t30, t31, t32, t33, t34, t35, t36, t37, t38, t39, t40, t41, t42, t43, t44, t45, t46, t47, t48, t49, t50, t51, t52, t53, t54, t55, t56, t57, t58, t59, t60, t61, t62, t63, t64, t65, t66, t67, t68, t69, t70, t71, t72, t73, t74, t75, t76, t77, t78, t79, t80, t81, t82, t83, t84, t85, t86, t87, t88, t89, t90, t91, t92, t93, t94, t95, t96, t97, t98, t99, t100, t101, t102, t103, t104, t105, t106, t107, t108, t109, t110, t111, t112, t113, t114, t115, t116, t117, t118, t119, t120, t121, t122, t123, t124, t125, t126, t127, t128, t129, t130, t131, t132, t133, t134, t135, t136, t137, t138, t139, t140, t141, t142, t143, t144, s145, s146, s147, s148, s149, s150, s151, s152, s153, s154, s155, s156, s157, s158, s159, s160, s161, s162, s163, s164, t165, t166, t167, t168, t169, t170, t171, t172, t173, t174, t175, t176, t177], []⟩ wx)) :
    Code.wp Tryz.prog body41 (Exit.then K Q') ⟨#[t0, .pointer (some ⟨w.heap.size, 0, none⟩), t2, t3, t4, .int .i64 (a : Int), .int .i64 (b : Int), t7, t8, t9, t10, t11, .slice la n lc, t13, t14, t15, t16, t17, t18, t19, t20, t21, t22, t23, t24, t25, t26, t27, t28, t29, t30, t31, t32, t33, t34, t35, t36, t37, t38, t39, t40, t41, t42, t43, t44, t45, t46, t47, t48, t49, t50, t51, t52, t53, t54, t55, t56, t57, t58, t59, t60, t61, t62, t63, t64, t65, t66, t67, t68, t69, t70, t71, t72, t73, t74, t75, t76, t77, t78, t79, t80, t81, t82, t83, t84, t85, t86, t87, t88, t89, t90, t91, t92, t93, t94, t95, t96, t97, t98, t99, t100, t101, t102, t103, t104, t105, t106, t107, t108, t109, t110, t111, t112, t113, t114, t115, t116, t117, t118, t119, t120, t121, t122, t123, t124, t125, t126, t127, t128, t129, t130, t131, t132, t133, t134, t135, t136, t137, t138, t139, t140, t141, t142, t143, t144, t145, t146, t147, t148, t149, t150, t151, t152, t153, t154, t155, t156, t157, t158, t159, t160, t161, t162, t163, t164, t165, t166, t167, t168, t169, t170, t171, t172, t173, t174, t175, t176, t177], []⟩ W11 := by
 by_cases h1 : a + b + 258 < n
 · exact q2h (fun e9 => Hid (e9 = if a + b + 258 < n ∨ row.getD 256 0 = 0 then 3 else 0)) HZ1 ha hb h1 (fun e9 h => by rw [h.out, if_pos (Or.inl h1)]; rfl) hQ hrest
 · refine q2g (fun e9 => Hid (e9 = if a + b + 258 < n ∨ row.getD 256 0 = 0 then 3 else 0)) HZ1 ha hb (((row.getD 256 0 : Nat) : Int) == 0) (by omega) hn rfl (fun e9 h => ?_) hQ hrest
   have h2 := h.out
   by_cases h3 : row.getD 256 0 = 0
   · rw [if_pos ⟨by rw [h3]; rfl, rfl⟩] at h2
     rw [h2, if_pos (Or.inr h3)]; rfl
   · rw [if_neg (fun q => h3 (by have := q.1; simpa using this))] at h2
     rw [h2, if_neg (fun q => q.elim h1 h3)]; rfl
end Go.Proofs.YthkppipdflmekaaGreat
