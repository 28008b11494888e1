/- The law's Told: the region of a file, by itself. -/
import Derived.Test.YtkgjepgaekbniaaDoorQNodZ
import Derived.Test.YtkgjepgaekbniaaDoorQGrow
import Derived.Deep.RegionHeld
namespace Go.Proofs.YtkgjepgaekbniaaDoor
open Go.RowKit
set_option linter.unusedVariables false
set_option linter.unusedSimpArgs false

section
variable {P : Program} {ops : Array Oper} {Q : Exit → Act → World → Prop} {md : Region.Mode} {S : World → Prop} {fuel : Nat} {l : Array Bool}
theorem armH_value {o : Oper} {a : Act} {w : World} {K : Act → World → Prop} {E : Prop} (hK : Shut (∀ a w, S w → (S w → wpAnyH P md ops Q S fuel l a w) → K a w)) (hgd : o.guard = none) (d : Option Tmp) (hd : o.dst = d)
    {v : Value} {w' : World} (hrun : (execOp a.eval o).run P w = .ok (.value v) w') (hS : S w') (h : S w' → wpAnyH P md ops Q S fuel l (a.put d v) w') :
    if Region.wanted o (yielded ops a.tmps) = true then Oper.wp P o a w K Q else E := by
  have hw : Region.wanted o (yielded ops a.tmps) = true := by simp [Region.wanted, hgd]
  subst hd
  rw [if_pos hw]
  unfold Oper.wp
  rw [hrun]
  exact hK.out _ _ hS h
theorem takeH {i : Nat} {oi : Oper} {fuel : Nat} {a : Act} {w : World} (hi : ops[i]? = some oi) (hs : Region.noSelect ops = true) (hf : Region.free md ops l i = true) (hr : (Region.ready md ops l).contains i = true)
    (hQ : ∀ c v a w, Q (.panic c) (a.put oi.dst v) w → Q (.panic c) a w) (d : Tmp) (hd : oi.dst = some d) (v : Value) (hy : YieldsIf P ops S oi v a) (hw : S w) (h : wpAnyH P md ops Q S fuel (l.setIfInBounds i true) (a.put (some d) v) w) : wpAnyH P md ops Q S (fuel + 1) l a w :=
  wpAnyH_take (v := v) hi hs hf hr (fun c a w h => hQ c _ a w h) hy hw (by rw [hd]; exact h)
end
theorem armH_append {ops : Array Oper} {Q : Exit → Act → World → Prop} {md : Region.Mode} {S : World → Prop} {fuel : Nat} {l : Array Bool} {o : Oper} {a : Act} {w : World} {K : Act → World → Prop} {E : Prop} (hK : Shut (∀ a w, S w → (S w → wpAnyH Tryd.prog md ops Q S fuel l a w) → K a w)) (hgd : o.guard = none) (d : Option Tmp) (hd : o.dst = d) (s x : Operand)
    (ho : o.op = .call { callee := .builtin .append, args := #[s, x], argTypes := #[22, 22] })
    (B : Nat) (v u : Value) (p c : List (List UInt8)) (hs : a.eval s = v) (hx : a.eval x = u) (hO : OT w B v p) (hU : TR w u c) (hl : p.length + c.length ≤ 8796093022208) (hB : B ≤ w.heap.size)
    (h : ∀ a' cap' w', OT w' B (.slice a' (p ++ c).length cap') (p ++ c) → w.grownBy w' v.ownBlock → S w' ∧ (S w' → wpAnyH Tryd.prog md ops Q S fuel l (a.put d (.slice a' (p ++ c).length cap')) w')) :
    if Region.wanted o (yielded ops a.tmps) = true then Oper.wp Tryd.prog o a w K Q else E := by
  subst hd
  exact step_append_texts hgd s x ho B v u p c hs hx hO hU hl hB (fun a' cap' w' h1 h2 => hK.out _ _ (h a' cap' w' h1 h2).1 (h a' cap' w' h1 h2).2)
theorem armH_next {P : Program} {ops : Array Oper} {Q : Exit → Act → World → Prop} {o : Oper} {a : Act} {w : World} {K : Act → World → Prop} {E : Prop} (hgd : o.guard = none) (h : Oper.wp P o a w K Q) :
    if Region.wanted o (yielded ops a.tmps) = true then Oper.wp P o a w K Q else E := by
  have hw : Region.wanted o (yielded ops a.tmps) = true := by simp [Region.wanted, hgd]
  rw [if_pos hw]; exact h
/-- The region of a number within a body. -/
def regionN (k : Nat) : Code → Option Code
  | .region i ops d => if i = k then some (.region i ops d) else none
  | .seq a b => match regionN k a with
    | some c => some c
    | none => regionN k b
  | .cond _ a b => match regionN k a with
    | some c => some c
    | none => regionN k b
  | .block _ c => regionN k c
  | .loop c => regionN k c
  | .scope c => regionN k c
  | _ => none
noncomputable def told7 : Code := (Tryd.f9.body.bind (regionN 7)).getD .skip
theorem seven {w : World} {g : Nat} {T : TypeId} {v0 v1 v2 v3 v4 v5 v6 : Value} (h : w.heap[g]? = some (.cells #[v0, v1, v2, v3, v4, v5, v6] T (0, 0))) :
    w.cell? ⟨g, 0, none⟩ = some v0 ∧ w.cell? ⟨g, 1, none⟩ = some v1 ∧ w.cell? ⟨g, 2, none⟩ = some v2 ∧ w.cell? ⟨g, 3, none⟩ = some v3 ∧ w.cell? ⟨g, 4, none⟩ = some v4 ∧ w.cell? ⟨g, 5, none⟩ = some v5 ∧ w.cell? ⟨g, 6, none⟩ = some v6 ∧
    w.frozen? ⟨g, 0, none⟩ = false ∧ w.frozen? ⟨g, 1, none⟩ = false ∧ w.frozen? ⟨g, 2, none⟩ = false ∧ w.frozen? ⟨g, 3, none⟩ = false ∧ w.frozen? ⟨g, 4, none⟩ = false ∧ w.frozen? ⟨g, 5, none⟩ = false ∧ w.frozen? ⟨g, 6, none⟩ = false := by
  refine ⟨?_, ?_, ?_, ?_, ?_, ?_, ?_, ?_, ?_, ?_, ?_, ?_, ?_, ?_⟩ <;> simp [World.cell?, World.frozen?, h]
/-- The record's block and the node's. -/
structure T7 (W : World) (r xb : Nat) (a : List UInt8) (m t s : Int) (u : Value) : Prop where
  hr : W.heap[r]? = some (.cells #[.int .i64 0, .string ⟨#[]⟩, .int .i64 0, .int .i64 0, .int .i64 0, .slice none 0 0, .string ⟨#[]⟩] 24 (0, 0))
  hx : W.heap[xb]? = some (.cells #[.string (mkB a), .int .i64 m, .int .i64 t, .int .i64 s, u] 29 (0, 0))
set_option maxRecDepth 100000 in
set_option maxHeartbeats 8000000 in
theorem told7_any {w X : World} {r xb : Nat} {a : List UInt8} {m t s : Int} {ua : Option Addr} {uc : Nat} {c : List (List UInt8)} {K : Act → World → Prop} {Q' : Exit → Act → World → Prop} {t0 t1 t3 t5 t6 t7 t8 t9 t10 t11 t12 t13 t14 t15 t16 t17 t18 t19 t20 t21 t22 t23 t24 t25 t26 t27 t28 t29 t30 t31 t32 t33 t34 t35 t36 t37 t38 t39 t40 t41 t42 t43 t44 t45 : Value}
    (HT : Hid (T7 X r xb a m t s (.slice ua c.length uc))) (HU : Hid (TR X (.slice ua c.length uc) c)) (hw : w.heap.size ≤ X.heap.size) (hl : c.length ≤ 8796093022208)
    (hQ : ∀ (ch : List PanicEntry) (T1 T2 : Array Value) (D : List Deferred) (w : World), Q' (.panic ch) ⟨T1, D⟩ w → Q' (.panic ch) ⟨T2, D⟩ w)
    (hrest : Hid (∀ (s20 s21 s22 s23 s24 s25 s26 s27 s28 s29 s30 s31 s32 : Value) (a' : Option Addr) (c' : Nat) (w2 wx : World), wx.heap[r]? = some (.cells #[.int .i64 2, .string (mkB a), .int .i64 m, .int .i64 t, .int .i64 s, .slice a' c.length c', .string ⟨#[]⟩] 24 (0, 0)) → OT wx X.heap.size (.slice a' c.length c') c → X.grownBy wx (some r) → K ⟨#[t0, t1, .pointer (some ⟨r, 0, none⟩), t3, .pointer (some ⟨xb, 0, none⟩), t5, t6, t7, t8, t9, t10, t11, t12, t13, t14, t15, t16, t17, t18, t19, s20, s21, s22, s23, s24, s25, s26, s27, s28, s29, s30, s31, s32, t33, t34, t35, t36, t37, t38, t39, t40, t41, t42, t43, t44, t45], []⟩ wx)) :
    Code.wp Tryd.prog told7 (Exit.then K Q') ⟨#[t0, t1, .pointer (some ⟨r, 0, none⟩), t3, .pointer (some ⟨xb, 0, none⟩), t5, t6, t7, t8, t9, t10, t11, t12, t13, t14, t15, t16, t17, t18, t19, t20, t21, t22, t23, t24, t25, t26, t27, t28, t29, t30, t31, t32, t33, t34, t35, t36, t37, t38, t39, t40, t41, t42, t43, t44, t45], []⟩ X := by
  conv => arg 2; whnf
  have hxl := (Array.getElem?_eq_some_iff.1 HT.out.hx).1
  have hrl := (Array.getElem?_eq_some_iff.1 HT.out.hr).1
  have hne : r ≠ xb := by
    rintro rfl
    have h1 := HT.out.hr
    rw [HT.out.hx] at h1
    simp at h1
  have HS : Hid (∀ W : World, W.heap[xb]? = X.heap[xb]? → W.cell? ⟨xb, 0, none⟩ = some (.string (mkB a)) ∧ W.cell? ⟨xb, 1, none⟩ = some (.int .i64 m) ∧ W.cell? ⟨xb, 2, none⟩ = some (.int .i64 t) ∧ W.cell? ⟨xb, 3, none⟩ = some (.int .i64 s) ∧ W.cell? ⟨xb, 4, none⟩ = some (.slice ua c.length uc)) := fun W hW => by
    have h := hW.trans HT.out.hx
    exact ⟨by rw [Lib.cell_of_heap h]; rfl, by rw [Lib.cell_of_heap h]; rfl, by rw [Lib.cell_of_heap h]; rfl, by rw [Lib.cell_of_heap h]; rfl, by rw [Lib.cell_of_heap h]; rfl⟩
  refine wp_region_held_drew (S := fun W => W.heap[xb]? = X.heap[xb]?) (by kernel_rfl) rfl (fun hHeld => ?_)
  change wpAnyH _ _ _ _ _ 14 (Array.replicate 14 false) _ _
  refine takeH (i := 0) rfl (by kernel_rfl) (by kernel_rfl) (by kernel_rfl) (fun _ _ _ _ h => hQ _ _ _ _ _ h) 20 rfl (.pointer (some ⟨xb, 0, none⟩)) (Or.inl ⟨by rfl, by intro w hSw; go_simp⟩) hHeld ?_
  simp only [Act.put, List.setIfInBounds_toArray, List.set_cons_zero, List.set_cons_succ]
  refine takeH (i := 1) rfl (by kernel_rfl) (by kernel_rfl) (by kernel_rfl) (fun _ _ _ _ h => hQ _ _ _ _ _ h) 21 rfl (.string (mkB a)) (Or.inl ⟨by rfl, by intro w hSw; have hc9 := HS.out _ hSw; go_split_ands; go_simp⟩) hHeld ?_
  simp only [Act.put, List.setIfInBounds_toArray, List.set_cons_zero, List.set_cons_succ]
  refine takeH (i := 2) rfl (by kernel_rfl) (by kernel_rfl) (by kernel_rfl) (fun _ _ _ _ h => hQ _ _ _ _ _ h) 22 rfl (.pointer (some ⟨xb, 1, none⟩)) (Or.inl ⟨by rfl, by intro w hSw; go_simp⟩) hHeld ?_
  simp only [Act.put, List.setIfInBounds_toArray, List.set_cons_zero, List.set_cons_succ]
  refine takeH (i := 3) rfl (by kernel_rfl) (by kernel_rfl) (by kernel_rfl) (fun _ _ _ _ h => hQ _ _ _ _ _ h) 23 rfl (.int .i64 m) (Or.inl ⟨by rfl, by intro w hSw; have hc9 := HS.out _ hSw; go_split_ands; go_simp⟩) hHeld ?_
  simp only [Act.put, List.setIfInBounds_toArray, List.set_cons_zero, List.set_cons_succ]
  refine takeH (i := 4) rfl (by kernel_rfl) (by kernel_rfl) (by kernel_rfl) (fun _ _ _ _ h => hQ _ _ _ _ _ h) 24 rfl (.pointer (some ⟨xb, 2, none⟩)) (Or.inl ⟨by rfl, by intro w hSw; go_simp⟩) hHeld ?_
  simp only [Act.put, List.setIfInBounds_toArray, List.set_cons_zero, List.set_cons_succ]
  refine takeH (i := 5) rfl (by kernel_rfl) (by kernel_rfl) (by kernel_rfl) (fun _ _ _ _ h => hQ _ _ _ _ _ h) 25 rfl (.int .i64 t) (Or.inl ⟨by rfl, by intro w hSw; have hc9 := HS.out _ hSw; go_split_ands; go_simp⟩) hHeld ?_
  simp only [Act.put, List.setIfInBounds_toArray, List.set_cons_zero, List.set_cons_succ]
  refine takeH (i := 6) rfl (by kernel_rfl) (by kernel_rfl) (by kernel_rfl) (fun _ _ _ _ h => hQ _ _ _ _ _ h) 26 rfl (.pointer (some ⟨xb, 3, none⟩)) (Or.inl ⟨by rfl, by intro w hSw; go_simp⟩) hHeld ?_
  simp only [Act.put, List.setIfInBounds_toArray, List.set_cons_zero, List.set_cons_succ]
  refine takeH (i := 7) rfl (by kernel_rfl) (by kernel_rfl) (by kernel_rfl) (fun _ _ _ _ h => hQ _ _ _ _ _ h) 27 rfl (.int .i64 s) (Or.inl ⟨by rfl, by intro w hSw; have hc9 := HS.out _ hSw; go_split_ands; go_simp⟩) hHeld ?_
  simp only [Act.put, List.setIfInBounds_toArray, List.set_cons_zero, List.set_cons_succ]
  refine takeH (i := 9) rfl (by kernel_rfl) (by kernel_rfl) (by kernel_rfl) (fun _ _ _ _ h => hQ _ _ _ _ _ h) 29 rfl (.pointer (some ⟨xb, 4, none⟩)) (Or.inl ⟨by rfl, by intro w hSw; go_simp⟩) hHeld ?_
  simp only [Act.put, List.setIfInBounds_toArray, List.set_cons_zero, List.set_cons_succ]
  refine takeH (i := 10) rfl (by kernel_rfl) (by kernel_rfl) (by kernel_rfl) (fun _ _ _ _ h => hQ _ _ _ _ _ h) 30 rfl (.slice ua c.length uc) (Or.inl ⟨by rfl, by intro w hSw; have hc9 := HS.out _ hSw; go_split_ands; go_simp⟩) hHeld ?_
  simp only [Act.put, List.setIfInBounds_toArray, List.set_cons_zero, List.set_cons_succ]
  have hA1 : (X.drew.alloc (.cells #[] 9)).heap[xb]? = X.heap[xb]? := heap_alloc_old X.drew (.cells #[] 9) hxl
  have hAr : (X.drew.alloc (.cells #[] 9)).heap[r]? = X.heap[r]? := heap_alloc_old X.drew (.cells #[] 9) hrl
  have hOA : OT (X.drew.alloc (.cells #[] 9)) X.heap.size (.slice (some ⟨X.heap.size, 0, none⟩) 0 0) [] := World.ownsRow_lit X.drew #[] 0 (Nat.le_refl _) (by decide) rfl
  have hBA : Below X.heap.size X (X.drew.alloc (.cells #[] 9)) := ((Below.refl _ X).drew).alloc (Nat.le_refl _) _
  have hUA : TR (X.drew.alloc (.cells #[] 9)) (.slice ua c.length uc) c := HU.out.below hBA
  refine wpAnyH_ready (rs := [8]) (by kernel_rfl) (by simp) ?_
  refine AllReadyH.cons rfl (fun K hK => ?_) AllReadyH.nil
  refine armH_value hK rfl (some 28) rfl (v := .slice (some ⟨X.heap.size, 0, none⟩) 0 0) (w' := X.drew.alloc (.cells #[] 9)) (by go_simp) hA1 (fun hHeld2 => ?_)
  simp only [Act.put, List.setIfInBounds_toArray, List.set_cons_zero, List.set_cons_succ]
  clear hK
  refine wpAnyH_ready (rs := [11]) (by kernel_rfl) (by simp) ?_
  refine AllReadyH.cons rfl (fun K hK => ?_) AllReadyH.nil
  refine armH_append hK rfl (some 31) rfl _ _ rfl X.heap.size (.slice (some ⟨X.heap.size, 0, none⟩) 0 0) (.slice ua c.length uc) [] c rfl rfl hOA hUA (by simp; omega) hBA.size (fun a' c' w' hO hg => ?_)
  have hx1 : w'.heap[xb]? = X.heap[xb]? := (hg.block xb (by rw [World.size_alloc]; exact Nat.lt_succ_of_lt hxl) (fun e => by have e2 : xb = X.heap.size := Option.some.inj e; omega)).trans hA1
  have hr1 : w'.heap[r]? = X.heap[r]? := (hg.block r (by rw [World.size_alloc]; exact Nat.lt_succ_of_lt hrl) (fun e => by have e2 : r = X.heap.size := Option.some.inj e; omega)).trans hAr
  refine ⟨hx1, fun hHeld3 => ?_⟩
  simp only [List.nil_append] at hO ⊢
  simp only [Act.put, List.setIfInBounds_toArray, List.set_cons_zero, List.set_cons_succ]
  clear hK
  refine takeH (i := 12) rfl (by kernel_rfl) (by kernel_rfl) (by kernel_rfl) (fun _ _ _ _ h => hQ _ _ _ _ _ h) 32 rfl (.agg #[.int .i64 2, .string (mkB a), .int .i64 m, .int .i64 t, .int .i64 s, .slice a' c.length c', .string ⟨#[]⟩]) (Or.inl ⟨by rfl, by intro w hSw; go_simp⟩) hHeld3 ?_
  simp only [Act.put, List.setIfInBounds_toArray, List.set_cons_zero, List.set_cons_succ]
  have hr2 := hr1.trans HT.out.hr
  obtain ⟨p0, p1, p2, p3, p4, p5, p6, q0, q1, q2, q3, q4, q5, q6⟩ := seven hr2
  refine wpAnyH_ready (rs := [13]) (by kernel_rfl) (by simp) ?_
  refine AllReadyH.cons rfl (fun K hK => ?_) AllReadyH.nil
  refine armH_next rfl ?_
  go_simp
  have hgr : w'.grownBy (((((((w'.setCell ⟨r, 0, none⟩ (.int .i64 2)).setCell ⟨r, 1, none⟩ (.string (mkB a))).setCell ⟨r, 2, none⟩ (.int .i64 m)).setCell ⟨r, 3, none⟩ (.int .i64 t)).setCell ⟨r, 4, none⟩ (.int .i64 s)).setCell ⟨r, 5, none⟩ (.slice a' c.length c')).setCell ⟨r, 6, none⟩ (.string ⟨#[]⟩)) (some r) := gset (gset (gset (gset (gset (gset (gset (grefl w' _) 0 _) 1 _) 2 _) 3 _) 4 _) 5 _) 6 _
  have hfin : (((((((w'.setCell ⟨r, 0, none⟩ (.int .i64 2)).setCell ⟨r, 1, none⟩ (.string (mkB a))).setCell ⟨r, 2, none⟩ (.int .i64 m)).setCell ⟨r, 3, none⟩ (.int .i64 t)).setCell ⟨r, 4, none⟩ (.int .i64 s)).setCell ⟨r, 5, none⟩ (.slice a' c.length c')).setCell ⟨r, 6, none⟩ (.string ⟨#[]⟩)).heap[r]? = some (.cells #[.int .i64 2, .string (mkB a), .int .i64 m, .int .i64 t, .int .i64 s, .slice a' c.length c', .string ⟨#[]⟩] 24 (0, 0)) := by
    rw [heap_setCell_same _ _ _ _ _ _ (heap_setCell_same _ _ _ _ _ _ (heap_setCell_same _ _ _ _ _ _ (heap_setCell_same _ _ _ _ _ _ (heap_setCell_same _ _ _ _ _ _ (heap_setCell_same _ _ _ _ _ _ (heap_setCell_same _ _ _ _ _ _ hr2))))))]; rfl
  have hbw : Below X.heap.size X w' := hBA.grown hg hBA.size (fun k hk => by have e2 : X.heap.size = k := Option.some.inj hk; omega)
  refine hK.out _ _ ((hgr.block xb (by have := hbw.size; omega) (fun e => hne (Option.some.inj e).symm)).trans hx1) (fun _ => ?_)
  clear hK
  refine wpAnyH_done (by kernel_rfl) ?_ _
  have hOf : OT _ X.heap.size (.slice a' c.length c') c := World.ownsRow.kept hO hgr (by
    cases hv : (Value.slice a' c.length c').ownBlock with
    | none => exact .inl rfl
    | some k => exact .inr (fun e => by have := (World.ownsRow.lt hO k hv).1; have e2 : k = r := (by simpa using e); omega))
  have hgX : X.grownBy _ (some r) := ⟨hgr.os.trans hbw.os, hgr.tape.trans hbw.tape, hgr.output.trans hbw.output, Nat.le_trans hbw.size hgr.size, fun g hg1 hg2 => (hgr.block g (Nat.lt_of_lt_of_le hg1 hbw.size) hg2).trans (hbw.block g hg1)⟩
  go_wp2
  exact hrest.out _ _ _ _ _ _ _ _ _ _ _ _ _ a' c' w' _ hfin hOf hgX
end Go.Proofs.YtkgjepgaekbniaaDoor
