/- One step of a region that draws its order, under a condition on the world that is shown anew behind each: laws of our own on the kit's. -/
import Derived.Test.YtlnagnkiadlfpaaDoorBase
import Derived.Deep.RegionHeld
import Derived.Great.BuildSlice
import Derived.Test.YtlnagnkiadlfpaaDoorAdd
namespace Go.Proofs.YtlnagnkiadlfpaaDoor
open Go.RowKit
set_option linter.unusedVariables false
section
variable {P : Program} {ops : Array Oper} {Q : Exit → Act → World → Prop} {md : Region.Mode} {S : World → Prop} {fuel : Nat} {l : Array Bool}

theorem arm_value {o : Oper} {a : Act} {w : World} {K : Act → World → Prop} {E : Prop} (hK : Shut (∀ a w, S w → (S w → wpAnyH P md ops Q S fuel l a w) → K a w)) (hgd : o.guard = none) (d : Option Tmp) (hd : o.dst = d)
    {v : Value} {w' : World} (hrun : (execOp a.eval o).run P w = .ok (.value v) w') (hS : S w') (h : S w' → wpAnyH P md ops Q S fuel l (a.put d v) w') :
    if Region.wanted o (yielded ops a.tmps) = true then Oper.wp P o a w K Q else E := by
  have hw : Region.wanted o (yielded ops a.tmps) = true := by simp [Region.wanted, hgd]
  subst hd
  rw [if_pos hw]
  unfold Oper.wp
  rw [hrun]
  exact hK.out _ _ hS h

theorem arm_call {o : Oper} {a : Act} {w : World} {K : Act → World → Prop} {E : Prop} (hK : Shut (∀ a w, S w → (S w → wpAnyH P md ops Q S fuel l a w) → K a w)) (hgd : o.guard = none) (d : Option Tmp) (hd : o.dst = d)
    (f : FuncId) (args : Array Value) (hrun : ∀ w, (execOp a.eval o).run P w = .ok (.enter f args) w) {v : Value} {R : World → Prop}
    (hc : Calls P f args w fun e w' => e = .returned v ∧ R w') (h : ∀ w', R w' → S w' ∧ (S w' → wpAnyH P md ops Q S fuel l (a.put d v) w')) :
    if Region.wanted o (yielded ops a.tmps) = true then Oper.wp P o a w K Q else E := by
  have hw : Region.wanted o (yielded ops a.tmps) = true := by simp [Region.wanted, hgd]
  subst hd
  rw [if_pos hw]
  unfold Oper.wp
  rw [hrun w, Oper.upon_enter]
  refine hc.mono fun e w' hh => ?_
  obtain ⟨rfl, hR⟩ := hh
  exact hK.out _ _ (h w' hR).1 (h w' hR).2
end
/-! ### At this program, for words -/
section
variable {ops : Array Oper} {Q : Exit → Act → World → Prop} {md : Region.Mode} {S : World → Prop} {fuel : Nat} {l : Array Bool}
theorem arm_new {o : Oper} {a : Act} {w : World} {K : Act → World → Prop} {E : Prop} (hK : Shut (∀ a w, S w → (S w → wpAnyH Tryd.prog md ops Q S fuel l a w) → K a w)) (hgd : o.guard = none) (d : Tmp) (hd : o.dst = some d) (ho : o.op = .alloc 33)
    (hS : S (w.alloc (.cells zw 33))) (h : S (w.alloc (.cells zw 33)) → (w.alloc (.cells zw 33)).heap[w.heap.size]? = some (.cells (bw fun _ => false) 33 (0, 0)) → Below w.heap.size w (w.alloc (.cells zw 33)) → wpAnyH Tryd.prog md ops Q S fuel l (a.put (some d) (.pointer (some ⟨w.heap.size, 0, none⟩))) (w.alloc (.cells zw 33))) :
    if Region.wanted o (yielded ops a.tmps) = true then Oper.wp Tryd.prog o a w K Q else E := by
  refine arm_value hK hgd (some d) hd ?_ hS (fun hS => h hS (by rw [← zw_bc]; exact heap_alloc_new _ _) ((Below.refl _ w).alloc (Nat.le_refl _) _))
  have hz := (zero_of_info Tryd.zeroW).1
  obtain ⟨d', op, ty, ps, af, gd⟩ := o
  simp only at ho
  subst ho
  go_simp
theorem arm_store {o : Oper} {a : Act} {w : World} {K : Act → World → Prop} {E : Prop} (hK : Shut (∀ a w, S w → (S w → wpAnyH Tryd.prog md ops Q S fuel l a w) → K a w)) (hgd : o.guard = none) (hd : o.dst = none) (x y : Operand) (ho : o.op = .store 33 x y)
    (D : Nat) (f : Nat → Bool) (hx : a.eval x = .pointer (some ⟨D, 0, none⟩)) (hy : a.eval y = .agg (bl f).toArray) (old : Nat → Bool) (hg : w.heap[D]? = some (.cells (bw old) 33 (0, 0)))
    (hS : S (w.setRow D (bw f))) (h : S (w.setRow D (bw f)) → wpAnyH Tryd.prog md ops Q S fuel l a (w.setRow D (bw f))) :
    if Region.wanted o (yielded ops a.tmps) = true then Oper.wp Tryd.prog o a w K Q else E := by
  have hw : Region.wanted o (yielded ops a.tmps) = true := by simp [Region.wanted, hgd]
  rw [if_pos hw]
  refine wp_store_row _ x y ho D (bw f) hx hy _ _ hg (iW f) (oW _ _) (bw_one f) ?_
  rw [hd]
  exact hK.out _ _ hS h
theorem word_fill (ys : List Nat) : ∃ r : Array Value, Instr.fill (fun i => some (i * 32, 32)) ((Array.range (ys.length * 32)).map ((Value.agg zw).cells[· % (Value.agg zw).cells.size]!)) (((ys.map fun y => Value.agg (bl (bt y)).toArray).zipIdx 0).map fun x => (x.2, x.1)) = some r ∧
    r.size = ys.length * 32 ∧ ∀ k, k < ys.length → ∀ j, j < 32 → r[k * 32 + j]? = some (.bool (bt (ys.getD k 0) j)) := by
  obtain ⟨r, h1, h2, h3⟩ := Go.Great.fill_dense (s := 32) (by decide) (ys.map fun y => Value.agg (bl (bt y)).toArray) 0 ((Array.range (ys.length * 32)).map ((Value.agg zw).cells[· % (Value.agg zw).cells.size]!))
    (fun v hv => by
      obtain ⟨y, _, rfl⟩ := List.mem_map.1 hv
      simp [Value.cells, bl_len]) (by simp)
  refine ⟨r, h1, by rw [h2]; simp, fun k hk j hj => ?_⟩
  rw [h3, if_pos (by simp only [List.length_map]; omega)]
  rw [show (k * 32 + j) / 32 - 0 = k by omega, show (k * 32 + j) % 32 = j by omega, List.getElem?_map, List.getElem?_eq_getElem hk]
  simp [Value.cells, bl_at _ _ hj, List.getD_eq_getElem?_getD, List.getElem?_eq_getElem hk]
/-- New memory with these words in a row. -/
structure NewWords (w w' : World) (ys : List Nat) : Prop where
  at' : WordsAt w' w.heap.size ys
  bel : Below w.heap.size w w'
  size : w'.heap.size = w.heap.size + 1
theorem arm_build {o : Oper} {a : Act} {w : World} {K : Act → World → Prop} {E : Prop} (hK : Shut (∀ a w, S w → (S w → wpAnyH Tryd.prog md ops Q S fuel l a w) → K a w)) (hgd : o.guard = none) (d : Tmp) (hd : o.dst = some d) (n : Nat) (parts : Array (Nat × Operand)) (ho : o.op = .buildSlice 30 n parts)
    (ys : List Nat) (hn : n = ys.length) (hn0 : 0 < n) (hn1 : n ≤ 100) (hparts : (parts.map fun (i, x) => (i, a.eval x)).toList = ((ys.map fun y => Value.agg (bl (bt y)).toArray).zipIdx 0).map fun x => (x.2, x.1))
    (h : ∀ w', NewWords w w' ys → S w' ∧ (S w' → wpAnyH Tryd.prog md ops Q S fuel l (a.put (some d) (.slice (some ⟨w.heap.size, 0, none⟩) n n)) w')) :
    if Region.wanted o (yielded ops a.tmps) = true then Oper.wp Tryd.prog o a w K Q else E := by
  have hw : Region.wanted o (yielded ops a.tmps) = true := by simp [Region.wanted, hgd]
  rw [if_pos hw]
  subst hn
  obtain ⟨r, h1, h2, h3⟩ := word_fill ys
  obtain ⟨i0, hi0, hiz, his⟩ : ∃ i0, Tryd.prog.info? 33 = some i0 ∧ i0.zero = some (.agg zw) ∧ i0.size = 32 := by
    have hq := Tryd.zeroW
    cases hi : Tryd.prog.info? 33 with
    | none => rw [hi] at hq; cases hq
    | some i0 => rw [hi] at hq; simp at hq; exact ⟨i0, rfl, hq.1, hq.2⟩
  have nw : NewWords w (w.alloc (.cells r 33)) ys := ⟨fun k hk j v hv => by
      have hj : j < 32 := by have := (List.getElem?_eq_some_iff.1 hv).1; rwa [bl_len] at this
      rw [bl_at _ _ hj] at hv
      rw [cell_of_row _ _ _ _ _ _ (heap_alloc_new _ _), h3 k hk j hj]; exact hv, (Below.refl _ w).alloc (Nat.le_refl _) _, World.size_alloc _ _⟩
  refine wp_buildSlice _ _ _ parts ho r i0 (.agg zw) Tryd.underlying30 hi0 hiz (by rw [his]; omega) (by rw [his]; omega) ?_ (hd ▸ hK.out _ _ (h _ nw).1 (h _ nw).2)
  rw [his, hparts]; exact h1
theorem take_load {i : Nat} {oi : Oper} {fuel : Nat} {a : Act} {w : World} (hi : ops[i]? = some oi) (hs : Region.noSelect ops = true) (hf : Region.free md ops l i = true) (hr : (Region.ready md ops l).contains i = true)
    (hQ : ∀ c v a w, Q (.panic c) (a.put oi.dst v) w → Q (.panic c) a w) (hgd : oi.guard = none) (d : Tmp) (hd : oi.dst = some d) (x : Operand) (ho : oi.op = .load 33 x) (b off : Nat) (hx : a.eval x = .pointer (some ⟨b, off, none⟩)) (f : Nat → Bool)
    (hS : ∀ W, S W → W.rangeAt b off (bl f)) (hw : S w) (h : wpAnyH Tryd.prog md ops Q S fuel (l.setIfInBounds i true) (a.put (some d) (.agg (bl f).toArray)) w) : wpAnyH Tryd.prog md ops Q S (fuel + 1) l a w := by
  refine wpAnyH_take (v := .agg (bl f).toArray) hi hs hf hr (fun c a w h => hQ c _ a w h) (yieldsIf_load_mid (by simp [Region.wanted, hgd]) _ x ho b off hx (bl f) _ hS Tryd.underlying33 rfl (by rw [bl_len]; exact Tryd.infoW)) hw (by rw [hd]; exact h)
theorem take_op {i : Nat} {oi : Oper} {fuel : Nat} {a : Act} {w : World} (hi : ops[i]? = some oi) (hs : Region.noSelect ops = true) (hf : Region.free md ops l i = true) (hr : (Region.ready md ops l).contains i = true)
    (hQ : ∀ c v a w, Q (.panic c) (a.put oi.dst v) w → Q (.panic c) a w) (d : Tmp) (hd : oi.dst = some d) (v : Value) (hy : YieldsIf Tryd.prog ops S oi v a) (hw : S w) (h : wpAnyH Tryd.prog md ops Q S fuel (l.setIfInBounds i true) (a.put (some d) v) w) : wpAnyH Tryd.prog md ops Q S (fuel + 1) l a w :=
  wpAnyH_take (v := v) hi hs hf hr (fun c a w h => hQ c _ a w h) hy hw (by rw [hd]; exact h)
end
end Go.Proofs.YtlnagnkiadlfpaaDoor
