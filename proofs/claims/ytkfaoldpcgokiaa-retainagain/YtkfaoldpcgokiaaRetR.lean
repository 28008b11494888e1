/- Snapshots and tags that are put behind others. -/
import Derived.Test.YtkfaoldpcgokiaaRetF
import Derived.Test.YtkfaoldpcgokiaaRetQ
namespace Go.Proofs.Ytkfaoldpcgokiaa
open Go.RowKit
set_option linter.unusedVariables false
set_option linter.unusedSimpArgs false

theorem SO.made (w : World) (X : Sn) : SO (w.alloc (.cells #[.string (mkB X.i), .int .i64 X.t, .string (mkB X.g)] 39)) w.heap.size (.slice (some ⟨w.heap.size, 0, none⟩) 1 1) [X] :=
  ⟨rfl, .inr ⟨w.heap.size, 1, #[.string (mkB X.i), .int .i64 X.t, .string (mkB X.g)], rfl, Nat.le_refl _, heap_alloc_new w _, Nat.le_refl _, by decide, rfl, rfl⟩⟩
/-- append(s, x) for one snapshot. -/
theorem append_sn {w : World} {ops : Array Oper} {rest : List Oper} {o : Oper} {a : Act} {Q : Exit → Act → World → Prop} (hgd : o.guard = none) (s x : Operand)
    (ho : o.op = .call { callee := .builtin .append, args := #[s, x], argTypes := #[25, 25] })
    (B : Nat) (v : Value) (l : List Sn) (X : Sn) (hs : a.eval s = v) (hx : a.eval x = .slice (some ⟨w.heap.size, 0, none⟩) 1 1) (hO : SO w B v l) (hl : l.length + 1 ≤ 1000000) (hB : B ≤ w.heap.size)
    (h : ∀ a' c' w', SO w' B (.slice a' (l.length + 1) c') (l ++ [X]) → w.grownBy w' v.ownBlock → wpList Try.prog ops Q rest (a.put o.dst (.slice a' (l.length + 1) c')) w') : wpList Try.prog ops Q (o :: rest) a (w.alloc (.cells #[.string (mkB X.i), .int .i64 X.t, .string (mkB X.g)] 39)) := by
  obtain ⟨i0, hi, hz0, hz1, hz2⟩ := info_parts Try.infoSn
  have hb : Below w.heap.size w (w.alloc (.cells #[.string (mkB X.i), .int .i64 X.t, .string (mkB X.g)] 39)) := (Below.refl _ _).alloc (Nat.le_refl _) _
  have hN : ∀ j u, (snsC [X])[j]? = some u → (w.alloc (.cells #[.string (mkB X.i), .int .i64 X.t, .string (mkB X.g)] 39)).cell? ((⟨w.heap.size, 0, none⟩ : Addr).add j) = some u := fun j u hu => World.ownsRow.cells (SO.made w X) (g := w.heap.size) rfl j u hu
  refine wpList_append_own_at _ hgd s x 25 ho B 39 i0 (.agg #[.string ⟨#[]⟩, .int .i64 0, .string ⟨#[]⟩]) 3 40 Try.underlying25 hi hz0 hz1 hz2 rfl (by decide) v _ _ hs (hO.below hb) ⟨w.heap.size, 0, none⟩ 1 1 (snsC [X]) hx (snsC_len [X]) hN (snsC_one _) (by unfold maxLen; omega) (by omega) (by rw [World.size_alloc]; omega) ?_
  intro v' w' hown hg _ hat
  have hO' : SO w' B v' (l ++ [X]) := by unfold SO; rw [snsC_append, List.length_append]; exact hown
  obtain ⟨a', c', rfl⟩ := hO'.shape
  have e : (l ++ [X]).length = l.length + 1 := by simp
  rw [e] at hO' hat ⊢
  exact h a' c' w' hO' (gtrans (gbelow hb) hg)
theorem OT.tv {w : World} {B : Nat} {v : Value} {l : List (List UInt8)} (h : OT w B v l) : TV w w.heap.size v l := by
  have hlt := World.ownsRow.lt h
  have h' := h
  rcases h.2 with ⟨rfl, h0⟩ | ⟨g, cap, cur, rfl, _, _, hc, _⟩
  · exact ⟨none, 0, by rw [h0], by omega, fun _ => rfl, fun hne => absurd (List.length_eq_zero_iff.1 h0) hne⟩
  · refine ⟨_, cap, rfl, hc, fun e => (by cases e), fun _ => ⟨g, 0, rfl, (hlt g rfl).2, (hlt g rfl).2, fun i hi => ?_⟩⟩
    rw [Nat.zero_add]
    exact h'.cell i hi rfl
theorem tc_ones (l : List (List UInt8)) : ∀ v ∈ tc l, v.oneCell' = true := by
  intro v hv
  obtain ⟨x, _, rfl⟩ := List.mem_map.1 hv
  rfl
set_option maxRecDepth 100000 in
set_option maxHeartbeats 2000000 in
/-- append([]string{}, v...), of as many as memory holds. -/
theorem copy_tags {w : World} {ops : Array Oper} {rest : List Oper} {o : Oper} {a : Act} {Q : Exit → Act → World → Prop} (hgd : o.guard = none) (s y : Operand)
    (ho : o.op = .call { callee := .builtin .append, args := #[s, y], argTypes := #[22, 22] })
    (v : Value) (l : List (List UInt8)) (hs : a.eval s = .slice (some ⟨w.heap.size, 0, none⟩) 0 0) (hx : a.eval y = v) (hV : TV w w.heap.size v l) (hl : l.length ≤ 8796093022208)
    (h : ∀ a' c' w', OT w' w.heap.size (.slice a' l.length c') l → Below w.heap.size w w' → wpList Try.prog ops Q rest (a.put o.dst (.slice a' l.length c')) w') : wpList Try.prog ops Q (o :: rest) a (w.alloc (.cells #[] 9)) := by
  obtain ⟨i0, hi, hz0, hz1, hz2⟩ := info_parts Try.infoTx
  have hb : Below w.heap.size w (w.alloc (.cells #[] 9)) := (Below.refl _ _).alloc (Nat.le_refl _) _
  have hO : (w.alloc (.cells #[] 9)).ownsRow w.heap.size 9 1 (.slice (some ⟨w.heap.size, 0, none⟩) 0 0) 0 [] := ⟨rfl, .inr ⟨w.heap.size, 0, #[], rfl, Nat.le_refl _, heap_alloc_new w _, Nat.le_refl _, by decide, rfl, rfl⟩⟩
  obtain ⟨ad, cap, rfl, hc, hzn, hf⟩ := hV.below hb
  cases ad with
  | none =>
    obtain rfl := hzn rfl
    have h0 : l = [] := List.length_eq_zero_iff.1 (by omega)
    subst h0
    refine wpList_append_own_none hgd s y 22 ho w.heap.size 9 i0 1 Try.underlying22 hi _ _ _ hs hO hx ?_
    exact h _ 0 _ hO hb
  | some x =>
    have hN : ∀ j u, (tc l)[j]? = some u → (w.alloc (.cells #[] 9)).cell? (x.add j) = some u := fun j u hu => by
      have hj : j < l.length := by rw [← tc_len]; exact (List.getElem?_eq_some_iff.1 hu).1
      obtain ⟨g, o, e, _, _, hcl⟩ := hf (fun e => by rw [e] at hj; simp at hj)
      cases e
      rw [Addr.add_mid, hcl j hj]
      unfold tc at hu
      rw [List.getElem?_map] at hu
      rw [List.getD_eq_getElem?_getD]
      cases hq : l[j]? with
      | none => rw [hq] at hu; cases hu
      | some q => rw [hq] at hu; exact hu
    refine wpList_append_own_at _ hgd s y 22 ho w.heap.size 9 i0 (.string ⟨#[]⟩) 1 16 Try.underlying22 hi hz0 hz1 hz2 rfl (by decide) _ _ _ hs hO x l.length cap (tc l) hx (by rw [tc_len, Nat.mul_one]) hN (tc_ones _) (by unfold maxLen; omega) (by omega) (by simp) ?_
    intro v' w' hown hg _ _
    rw [Nat.zero_add, List.nil_append] at hown
    have hO' : OT w' w.heap.size v' l := hown
    obtain ⟨a', c', rfl⟩ := hO'.shape
    exact h a' c' w' hO' (hb.grown hg (by simp) (fun k hk => by cases hk; exact Nat.le_refl _))
/-- append(s, x) for one text x, of as many as memory holds. -/
theorem append_tag {w : World} {ops : Array Oper} {rest : List Oper} {o : Oper} {a : Act} {Q : Exit → Act → World → Prop} (hgd : o.guard = none) (s x : Operand)
    (ho : o.op = .call { callee := .builtin .append, args := #[s, x], argTypes := #[22, 22] })
    (B : Nat) (v : Value) (l : List (List UInt8)) (X : List UInt8) (hs : a.eval s = v) (hx : a.eval x = .slice (some ⟨w.heap.size, 0, none⟩) 1 1) (hO : OT w B v l) (hl : l.length + 1 ≤ 8796093022208) (hB : B ≤ w.heap.size)
    (h : ∀ a' c' w', OT w' B (.slice a' (l.length + 1) c') (l ++ [X]) → w.grownBy w' v.ownBlock → wpList Try.prog ops Q rest (a.put o.dst (.slice a' (l.length + 1) c')) w') : wpList Try.prog ops Q (o :: rest) a (w.alloc (.cells #[.string (mkB X)] 9)) := by
  obtain ⟨i0, hi, hz0, hz1, hz2⟩ := info_parts Try.infoTx
  have hb : Below w.heap.size w (w.alloc (.cells #[.string (mkB X)] 9)) := (Below.refl _ _).alloc (Nat.le_refl _) _
  have hN : ∀ j u, (tc [X])[j]? = some u → (w.alloc (.cells #[.string (mkB X)] 9)).cell? ((⟨w.heap.size, 0, none⟩ : Addr).add j) = some u := fun j u hu => World.ownsRow.cells (OT.made w X) (g := w.heap.size) rfl j u hu
  refine wpList_append_own_at _ hgd s x 22 ho B 9 i0 (.string ⟨#[]⟩) 1 16 Try.underlying22 hi hz0 hz1 hz2 rfl (by decide) v _ _ hs (hO.below hb) ⟨w.heap.size, 0, none⟩ 1 1 (tc [X]) hx (by rw [tc_len]; rfl) hN (tc_ones _) (by unfold maxLen; omega) (by omega) (by rw [World.size_alloc]; omega) ?_
  intro v' w' hown hg _ hat
  have hO' : OT w' B v' (l ++ [X]) := by unfold OT; rw [tc_append, List.length_append]; exact hown
  obtain ⟨a', c', rfl⟩ := hO'.shape
  have e : (l ++ [X]).length = l.length + 1 := by simp
  rw [e] at hO' hat ⊢
  exact h a' c' w' hO' (gtrans (gbelow hb) hg)
/-- A policy in block b. -/
def PB (w : World) (b : Nat) (v0 v1 v2 v3 v4 : Value) : Prop := w.heap[b]? = some (.cells #[v0, v1, v2, v3, v4] 24 (0, 0))
theorem PB.lt {w : World} {b : Nat} {v0 v1 v2 v3 v4 : Value} (h : PB w b v0 v1 v2 v3 v4) : b < w.heap.size := (Array.getElem?_eq_some_iff.1 h).1
theorem PB.c {w : World} {b : Nat} {v0 v1 v2 v3 v4 : Value} (h : PB w b v0 v1 v2 v3 v4) : w.cell? ⟨b, 0, none⟩ = some v0 ∧ w.cell? ⟨b, 1, none⟩ = some v1 ∧ w.cell? ⟨b, 2, none⟩ = some v2 ∧ w.cell? ⟨b, 3, none⟩ = some v3 ∧ w.cell? ⟨b, 4, none⟩ = some v4 := by
  unfold PB at h
  refine ⟨?_, ?_, ?_, ?_, ?_⟩ <;> (unfold World.cell?; rw [h]; rfl)
theorem PB.f {w : World} {b : Nat} {v0 v1 v2 v3 v4 : Value} (h : PB w b v0 v1 v2 v3 v4) (i : Nat) : w.frozen? ⟨b, i, none⟩ = false := by
  unfold PB at h; simp [World.frozen?, h]
theorem PB.keep {w w' : World} {b : Nat} {v0 v1 v2 v3 v4 : Value} (h : PB w b v0 v1 v2 v3 v4) (hb : w'.heap[b]? = w.heap[b]?) : PB w' b v0 v1 v2 v3 v4 := hb.trans h
theorem PB.set0 {w : World} {b : Nat} {v0 v1 v2 v3 v4 : Value} (h : PB w b v0 v1 v2 v3 v4) (v : Value) : PB (w.setCell ⟨b, 0, none⟩ v) b v v1 v2 v3 v4 := by unfold PB; rw [heap_setCell_same _ _ _ _ _ _ h]; rfl
theorem PB.set1 {w : World} {b : Nat} {v0 v1 v2 v3 v4 : Value} (h : PB w b v0 v1 v2 v3 v4) (v : Value) : PB (w.setCell ⟨b, 1, none⟩ v) b v0 v v2 v3 v4 := by unfold PB; rw [heap_setCell_same _ _ _ _ _ _ h]; rfl
theorem PB.set2 {w : World} {b : Nat} {v0 v1 v2 v3 v4 : Value} (h : PB w b v0 v1 v2 v3 v4) (v : Value) : PB (w.setCell ⟨b, 2, none⟩ v) b v0 v1 v v3 v4 := by unfold PB; rw [heap_setCell_same _ _ _ _ _ _ h]; rfl
theorem PB.set3 {w : World} {b : Nat} {v0 v1 v2 v3 v4 : Value} (h : PB w b v0 v1 v2 v3 v4) (v : Value) : PB (w.setCell ⟨b, 3, none⟩ v) b v0 v1 v2 v v4 := by unfold PB; rw [heap_setCell_same _ _ _ _ _ _ h]; rfl
theorem PB.set4 {w : World} {b : Nat} {v0 v1 v2 v3 v4 : Value} (h : PB w b v0 v1 v2 v3 v4) (v : Value) : PB (w.setCell ⟨b, 4, none⟩ v) b v0 v1 v2 v3 v := by unfold PB; rw [heap_setCell_same _ _ _ _ _ _ h]; rfl
theorem PB.new (w : World) (v0 v1 v2 v3 v4 : Value) : PB (w.alloc (.cells #[v0, v1, v2, v3, v4] 24)) w.heap.size v0 v1 v2 v3 v4 := heap_alloc_new w _
end Go.Proofs.Ytkfaoldpcgokiaa
