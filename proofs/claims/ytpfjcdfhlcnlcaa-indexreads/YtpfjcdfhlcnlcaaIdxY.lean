import Derived.Test.YtpfjcdfhlcnlcaaIdxW
import Derived.Deep.RegionHeld3
namespace Go.Proofs.Ytpfjcdfhlcnlcaa
open Go.RowKit Go.Maps
set_option linter.unusedVariables false
set_option linter.unusedSimpArgs false

theorem bl_dec (a b : List UInt8) : Op.bytesLess (mkB a).toList (mkB b).toList = decide (a < b) := by
  rw [mkB_toList, mkB_toList]
  induction a generalizing b with
  | nil => cases b <;> simp [Op.bytesLess]
  | cons x a ih =>
    cases b with
    | nil => simp [Op.bytesLess]
    | cons y b =>
      have h0 := ih b
      rw [Op.bytesLess, h0]
      by_cases h1 : x < y <;> by_cases h2 : x = y <;> by_cases h3 : a < b <;> simp [List.cons_lt_cons_iff, h1, h2, h3]
theorem add_plain (g j : Nat) : (⟨g, 0, none⟩ : Addr).add j = ⟨g, j, none⟩ := by unfold Addr.add; split <;> simp_all
section
variable {ops : Array Oper} {Q : Exit → Act → World → Prop} {md : Region.Mode} {S : World → Prop} {l : Array Bool}
theorem take_op {i : Nat} {oi : Oper} {fuel : Nat} {a : Act} {w : World} (hi : ops[i]? = some oi) (hs : Region.noSelect ops = true) (hf : Region.free md ops l i = true) (hr : (Region.ready md ops l).contains i = true)
    (hQ : ∀ c v a w, Q (.panic c) (a.put oi.dst v) w → Q (.panic c) a w) (d : Tmp) (hd : oi.dst = some d) (v : Value) (hy : YieldsIf Try.prog ops S oi v a) (hw : S w) (h : wpAnyH Try.prog md ops Q S fuel (l.setIfInBounds i true) (a.put (some d) v) w) : wpAnyH Try.prog md ops Q S (fuel + 1) l a w :=
  wpAnyH_take (v := v) hi hs hf hr (fun c a w h => hQ c _ a w h) hy hw (by rw [hd]; exact h)
end

theorem plC_one (x : Pl) : ∀ v ∈ plC x, v.oneCell' = true := by
  intro v hv
  simp only [plC, List.mem_cons, List.not_mem_nil, or_false] at hv
  rcases hv with rfl | rfl | rfl | rfl | rfl | rfl | rfl <;> rfl
theorem plsC_one (l : List Pl) : ∀ v ∈ plsC l, v.oneCell' = true := by
  intro v hv
  obtain ⟨x, _, hx⟩ := List.mem_flatMap.1 hv
  exact plC_one x v hx
theorem plsC_append (a b : List Pl) : plsC (a ++ b) = plsC a ++ plsC b := by simp [plsC]
def plR (x : Pl) : Array Value := #[.string (mkB x.k), .string (mkB x.h.n), .int .i64 x.h.m, .int .u32 x.h.c, .int .i64 x.h.p, .int .i64 x.h.s, .int .i64 x.h.a]
theorem Try.infoPl : (Try.prog.info? 47).map (fun i => (i.zero, i.size, i.bytes)) = some (some (.agg #[.string ⟨#[]⟩, .string ⟨#[]⟩, .int .i64 0, .int .u32 0, .int .i64 0, .int .i64 0, .int .i64 0]), 7, 72) := by kernel_rfl
/-- Places in a row of one's own. -/
def PlO (w : World) (B : Nat) (v : Value) (l : List Pl) : Prop := w.ownsRow B 47 7 v l.length (plsC l)
theorem PlO.below {w w' : World} {B : Nat} {v : Value} {l : List Pl} (h : PlO w B v l) (hb : Below w.heap.size w w') : PlO w' B v l := ownsKept h (fun r hr => hb.block r (World.ownsRow.lt h r hr).2)
theorem PlO.shape {w : World} {B : Nat} {v : Value} {l : List Pl} (h : PlO w B v l) : ∃ a c, v = .slice a l.length c := by
  rcases h.2 with ⟨rfl, h0⟩ | ⟨g', cap, cur, rfl, _⟩
  · exact ⟨none, 0, by rw [h0]⟩
  · exact ⟨_, cap, rfl⟩
theorem PlO.made (w : World) (x : Pl) : PlO (w.alloc (.cells (plR x) 47)) w.heap.size (.slice (some ⟨w.heap.size, 0, none⟩) 1 1) [x] :=
  ⟨rfl, .inr ⟨w.heap.size, 1, plR x, rfl, Nat.le_refl _, heap_alloc_new w _, Nat.le_refl _, by decide, rfl, rfl⟩⟩
/-- append(s, x) for one place x. -/
theorem append_pl {w : World} {ops : Array Oper} {rest : List Oper} {o : Oper} {a : Act} {Q : Exit → Act → World → Prop} (hgd : o.guard = none) (s y : Operand)
    (ho : o.op = .call { callee := .builtin .append, args := #[s, y], argTypes := #[29, 29] })
    (B : Nat) (v : Value) (l : List Pl) (x : Pl) (hs : a.eval s = v) (hx : a.eval y = .slice (some ⟨w.heap.size, 0, none⟩) 1 1) (hO : PlO w B v l) (hl : l.length + 1 ≤ 1000000) (hB : B ≤ w.heap.size)
    (h : ∀ a' c' w', PlO w' B (.slice a' (l.length + 1) c') (l ++ [x]) → w.grownBy w' v.ownBlock → wpList Try.prog ops Q rest (a.put o.dst (.slice a' (l.length + 1) c')) w') : wpList Try.prog ops Q (o :: rest) a (w.alloc (.cells (plR x) 47)) := by
  obtain ⟨i0, hi, hz0, hz1, hz2⟩ := info_parts Try.infoPl
  have hb : Below w.heap.size w (w.alloc (.cells (plR x) 47)) := (Below.refl _ _).alloc (Nat.le_refl _) _
  have hN : ∀ j u, (plsC [x])[j]? = some u → (w.alloc (.cells (plR x) 47)).cell? ((⟨w.heap.size, 0, none⟩ : Addr).add j) = some u := fun j u hu => World.ownsRow.cells (PlO.made w x) (g := w.heap.size) rfl j u hu
  refine wpList_append_own_at _ hgd s y 29 ho B 47 i0 (.agg #[.string ⟨#[]⟩, .string ⟨#[]⟩, .int .i64 0, .int .u32 0, .int .i64 0, .int .i64 0, .int .i64 0]) 7 72 Try.underlying29 hi hz0 hz1 hz2 rfl (by decide) v _ _ hs (hO.below hb) ⟨w.heap.size, 0, none⟩ 1 1 (plsC [x]) hx (by rw [plsC_len]; rfl) hN (plsC_one _) (by unfold maxLen; omega) (by omega) (by rw [World.size_alloc]; omega) ?_
  intro v' w' hown hg _ _
  have hO' : PlO w' B v' (l ++ [x]) := by unfold PlO; rw [plsC_append, List.length_append]; exact hown
  obtain ⟨a', c', rfl⟩ := hO'.shape
  have e : (l ++ [x]).length = l.length + 1 := by simp
  rw [e] at hO' ⊢
  exact h a' c' w' hO' (gtrans (gbelow hb) hg)
/-- A place more. -/
theorem RdS.putq {w w3 w4 : World} {R : Nat} {s : Sx} {vp vq v' : Value} {ns : List (List UInt8)} {P P' : List Pl} (h : RdS w w3 R s vp ns vq P) (hown : PlO w4 R v' P') (hg : w3.grownBy w4 vq.ownBlock) : RdS w (w4.setCell ⟨R + 2, 1, none⟩ v') R s vp ns v' P' := by
  have hl := h.lt
  have hk : ∀ b, b < w3.heap.size → vq.ownBlock ≠ some b → w4.heap[b]? = w3.heap[b]? := fun b hb hn => hg.block b hb (fun e => hn e.symm)
  have hx : w4.heap[R + 2]? = _ := (hk (R + 2) hl (row_ne h.q h.x (by decide))).trans h.x
  have hr : w4.heap[R]? = _ := (hk R (by omega) (row_ne h.q h.r (by decide))).trans h.r
  have hc : w4.heap[R + 1]? = _ := (hk (R + 1) (by omega) (row_ne h.q h.c (by decide))).trans h.c
  have hp4 : OT w4 R vp ns := h.p.keptb (fun r hr' => hk r (World.ownsRow.lt h.p r hr').2 (fun e => by
    obtain ⟨_, cur, hcur⟩ : ∃ (_ : Nat) (cur : Array Value), w3.heap[r]? = some (.cells cur 9 (0, 0)) := by
      rcases h.p.2 with ⟨h9, _⟩ | ⟨g, cap, cur, h9, _, h8, _⟩
      · rw [h9] at hr'; cases hr'
      · rw [h9] at hr'; cases hr'; exact ⟨0, cur, h8⟩
    exact row_ne h.q hcur (by decide) e))
  have so : ∀ b, b ≠ R + 2 → (w4.setCell ⟨R + 2, 1, none⟩ v').heap[b]? = w4.heap[b]? := fun b hb => Below.heap_setCell _ _ _ _ hb
  refine ⟨(so R (by omega)).trans hr, (so (R + 1) (by omega)).trans hc, heap_setCell_same w4 (R + 2) 1 _ _ _ hx, ?_, ?_, ?_⟩
  · exact hp4.keptb (fun r hr' => so r (fun e => row_ne hp4 hx (by decide) (by rw [hr', e])))
  · exact ownsKept hown (fun r hr' => so r (fun e => row_ne hown hx (by decide) (by rw [hr', e])))
  · exact (h.bl.grown hg (by omega) (fun k hk' => (World.ownsRow.lt h.q k hk').1)).setCell (p := ⟨R + 2, 1, none⟩) (by show R ≤ R + 2; omega) _
theorem nodup_of {ns : List (List UInt8)} (h : ∀ j q, j < ns.length → ns[j]? = some q → ∀ i : Nat, i < j → ns[i]? ≠ some q) : ns.Nodup := by
  rw [List.nodup_iff_pairwise_ne, List.pairwise_iff_getElem]
  intro i j hi hj hij e
  exact h j ns[j] hj (List.getElem?_eq_getElem hj) i hij (by rw [List.getElem?_eq_getElem hi, e])
theorem not_nodup {ns : List (List UInt8)} {i j : Nat} {q : List UInt8} (hij : i ≠ j) (h1 : ns[i]? = some q) (h2 : ns[j]? = some q) : ¬ ns.Nodup := by
  intro hn
  rw [List.nodup_iff_pairwise_ne, List.pairwise_iff_getElem] at hn
  obtain ⟨hi, e1⟩ := List.getElem?_eq_some_iff.1 h1
  obtain ⟨hj, e2⟩ := List.getElem?_eq_some_iff.1 h2
  rcases Nat.lt_or_gt_of_ne hij with h | h
  · exact hn i j hi hj h (by rw [e1, e2])
  · exact hn j i hj hi h (by rw [e1, e2])
theorem PlO.pv {w : World} {B : Nat} {v : Value} {l : List Pl} (h : PlO w B v l) : PV w v l := by
  have h' := h
  rcases h.2 with ⟨rfl, h0⟩ | ⟨g, cap, cur, rfl, _, _, hc, _⟩
  · have : l = [] := List.length_eq_zero_iff.1 h0
    subst this
    exact ⟨none, 0, rfl, Nat.le_refl _, fun h => absurd rfl h⟩
  · refine ⟨_, cap, rfl, hc, fun _ => ⟨g, 0, rfl, (World.ownsRow.lt h g rfl).2, fun j u hu => ?_⟩⟩
    have := World.ownsRow.cells h' (g := g) rfl j u hu
    rw [add_plain] at this
    rw [Nat.zero_add]
    exact this
end Go.Proofs.Ytpfjcdfhlcnlcaa
