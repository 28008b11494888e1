/- How far a stream has been read, in memory. -/
import Derived.Test.YthkppipdflmekaaQRSeen
import Derived.Test.YthkppipdflmekaaQRefP
namespace Go.Proofs.Ythkppipdflmekaa
open Go.RowKit
set_option linter.unusedVariables false

/-- Its cells. -/
def snC (g N c p o m e : Nat) : Array Value := #[.slice (some ⟨g, 0, none⟩) N c, .int .i64 (p : Int), .int .i64 (o : Int), .int .i64 (m : Int), .int .i64 (e : Int)]
def sn0 : Array Value := #[.slice none 0 0, .int .i64 0, .int .i64 0, .int .i64 0, .int .i64 0]
/-- x stands in block bx, the result's cell is block rx; the row of bits lies apart. -/
structure SB (w W : World) (B g c : Nat) (L : List Bool) (bx rx p o m e : Nat) : Prop where
  ob : OB W B (.slice (some ⟨g, 0, none⟩) L.length c) L
  bxh : W.heap[bx]? = some (.cells (snC g L.length c p o m e) 58 (0, 0))
  rxh : W.heap[rx]? = some (.cells sn0 58 (0, 0))
  bel : Below w.heap.size w W
  lo : w.heap.size ≤ bx ∧ w.heap.size ≤ rx ∧ bx ≠ rx
theorem heap_lt {w : World} {b : Nat} {o : Obj} (h : w.heap[b]? = some o) : b < w.heap.size := (Array.getElem?_eq_some_iff.1 h).1
theorem SB.call {w W W' : World} {B g c : Nat} {L : List Bool} {bx rx p o m e : Nat} (h : SB w W B g c L bx rx p o m e) (hb : Below W.heap.size W W') : SB w W' B g c L bx rx p o m e :=
  ⟨h.ob.below hb, (hb.block _ (heap_lt h.bxh)).trans h.bxh, (hb.block _ (heap_lt h.rxh)).trans h.rxh, h.bel.trans (hb.mono h.bel.size), h.lo⟩
theorem five_cell {w : World} {b : Nat} {v0 v1 v2 v3 v4 : Value} {ty : TypeId} (h : w.heap[b]? = some (.cells #[v0, v1, v2, v3, v4] ty (0, 0))) : (w.cell? ⟨b, 0, none⟩ = some v0 ∧ w.cell? ⟨b, 1, none⟩ = some v1 ∧ w.cell? ⟨b, 2, none⟩ = some v2 ∧ w.cell? ⟨b, 3, none⟩ = some v3 ∧ w.cell? ⟨b, 4, none⟩ = some v4) ∧ (w.frozen? ⟨b, 0, none⟩ = false ∧ w.frozen? ⟨b, 1, none⟩ = false ∧ w.frozen? ⟨b, 2, none⟩ = false ∧ w.frozen? ⟨b, 3, none⟩ = false ∧ w.frozen? ⟨b, 4, none⟩ = false) := by
  refine ⟨⟨?_, ?_, ?_, ?_, ?_⟩, frozen_of_row _ _ _ _ _ h, frozen_of_row _ _ _ _ _ h, frozen_of_row _ _ _ _ _ h, frozen_of_row _ _ _ _ _ h, frozen_of_row _ _ _ _ _ h⟩ <;> (rw [cell_of_row _ _ _ _ _ _ h]; rfl)
/-- All five written. -/
def put5 (w : World) (b : Nat) (v0 v1 v2 v3 v4 : Value) : World := ((((w.setCell ⟨b, 0, none⟩ v0).setCell ⟨b, 1, none⟩ v1).setCell ⟨b, 2, none⟩ v2).setCell ⟨b, 3, none⟩ v3).setCell ⟨b, 4, none⟩ v4
theorem put5_heap {w : World} {b : Nat} {x0 x1 x2 x3 x4 : Value} {ty : TypeId} (h : w.heap[b]? = some (.cells #[x0, x1, x2, x3, x4] ty (0, 0))) (v0 v1 v2 v3 v4 : Value) : (put5 w b v0 v1 v2 v3 v4).heap[b]? = some (.cells #[v0, v1, v2, v3, v4] ty (0, 0)) := by
  unfold put5
  rw [heap_setCell_same _ _ _ _ _ _ (heap_setCell_same _ _ _ _ _ _ (heap_setCell_same _ _ _ _ _ _ (heap_setCell_same _ _ _ _ _ _ (heap_setCell_same _ _ _ _ _ _ h))))]; rfl
theorem put5_grown (w : World) (b : Nat) (v0 v1 v2 v3 v4 : Value) : w.grownBy (put5 w b v0 v1 v2 v3 v4) (some b) := gset (gset (gset (gset (gset (grefl w _) 0 v0) 1 v1) 2 v2) 3 v3) 4 v4
theorem ob_ne {W : World} {B g c b : Nat} {L : List Bool} {cs : Array Value} (h : OB W B (.slice (some ⟨g, 0, none⟩) L.length c) L) (hb : W.heap[b]? = some (.cells cs 58 (0, 0))) : g ≠ b := by
  obtain ⟨g', c', e, ho⟩ := h
  rintro rfl
  exact own_ne ho hb (by decide) rfl
theorem SB.put {w W : World} {B g c : Nat} {L : List Bool} {bx rx p o m e : Nat} (h : SB w W B g c L bx rx p o m e) (p' o' m' e' : Nat) : SB w (put5 W bx (.slice (some ⟨g, 0, none⟩) L.length c) (.int .i64 (p' : Int)) (.int .i64 (o' : Int)) (.int .i64 (m' : Int)) (.int .i64 (e' : Int))) B g c L bx rx p' o' m' e' := by
  have hg := put5_grown W bx (.slice (some ⟨g, 0, none⟩) L.length c) (.int .i64 (p' : Int)) (.int .i64 (o' : Int)) (.int .i64 (m' : Int)) (.int .i64 (e' : Int))
  exact ⟨h.ob.kept hg (fun e => ob_ne h.ob h.bxh (Option.some.inj e)), put5_heap h.bxh _ _ _ _ _, (hg.block _ (heap_lt h.rxh) (fun e => h.lo.2.2 (Option.some.inj e).symm)).trans h.rxh, h.bel.grown hg h.bel.size (fun k hk => by cases hk; exact h.lo.1), h.lo⟩
theorem SB.set {w W : World} {B g c : Nat} {L : List Bool} {bx rx p o m e : Nat} (h : SB w W B g c L bx rx p o m e) (i : Nat) (v : Value) (p' o' m' e' : Nat) (hv : (snC g L.length c p o m e).setIfInBounds i v = snC g L.length c p' o' m' e') : SB w (W.setCell ⟨bx, i, none⟩ v) B g c L bx rx p' o' m' e' := by
  have hg : W.grownBy (W.setCell ⟨bx, i, none⟩ v) (some bx) := gset (grefl W _) i v
  exact ⟨h.ob.kept hg (fun e => ob_ne h.ob h.bxh (Option.some.inj e)), by rw [heap_setCell_same _ _ _ _ _ _ h.bxh, hv], (hg.block _ (heap_lt h.rxh) (fun e => h.lo.2.2 (Option.some.inj e).symm)).trans h.rxh, h.bel.grown hg h.bel.size (fun k hk => by cases hk; exact h.lo.1), h.lo⟩
/-- What stands in the result's cell is handed back. -/
theorem SB.done {w W : World} {B g c : Nat} {L : List Bool} {bx rx p o m e : Nat} (h : SB w W B g c L bx rx p o m e) (v0 v1 v2 v3 v4 : Value) : (put5 W rx v0 v1 v2 v3 v4).heap[rx]? = some (.cells #[v0, v1, v2, v3, v4] 58 (0, 0)) ∧ Below w.heap.size w (put5 W rx v0 v1 v2 v3 v4) :=
  ⟨put5_heap h.rxh _ _ _ _ _, h.bel.grown (put5_grown W rx _ _ _ _ _) h.bel.size (fun k hk => by cases hk; exact h.lo.2.1)⟩
/-- The beginning. -/
theorem SB.start {w : World} {B g c : Nat} {L : List Bool} (h : OB w B (.slice (some ⟨g, 0, none⟩) L.length c) L) (p o m e : Nat) : SB w ((w.alloc (.cells (snC g L.length c p o m e) 58)).alloc (.cells sn0 58)) B g c L w.heap.size (w.heap.size + 1) p o m e := by
  refine ⟨(h.alloc _).alloc _, ?_, ?_, bel2 w _ _, ⟨Nat.le_refl _, by omega, by omega⟩⟩
  · rw [heap_alloc_old _ _ (by rw [World.size_alloc]; omega)]; exact heap_alloc_new w _
  · have := heap_alloc_new (w.alloc (.cells (snC g L.length c p o m e) 58)) (.cells sn0 58)
    rw [World.size_alloc] at this; exact this
end Go.Proofs.Ythkppipdflmekaa
