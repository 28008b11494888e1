/- A row of integers that is read. -/
import Derived.Test.YtibnkpfginffhaaRows
import Derived.Test.YtibnkpfginffhaaBase
import Derived.Laws.OwnMore
import Derived.Laws.AppendOwnNone
import Derived.WalkSmall
import Derived.Deep.MidRow
namespace Go.Proofs.Ytibnkpfginffhaa
open Go.RowKit
set_option linter.unusedVariables false

/-- v is a slice (not nil) of these integers. -/
def IR (w : World) (v : Value) (zs : List Int) : Prop := ∃ g cap, v = .slice (some ⟨g, 0, none⟩) zs.length cap ∧ g < w.heap.size ∧ ∀ i, i < zs.length → w.cell? ⟨g, i, none⟩ = some (.int .i64 (zs.getD i 0))
theorem IR.below {w w' : World} {v : Value} {zs : List Int} (h : IR w v zs) (hb : Below w.heap.size w w') : IR w' v zs := by
  obtain ⟨g, cap, rfl, hg, hc⟩ := h
  exact ⟨g, cap, rfl, Nat.lt_of_lt_of_le hg hb.size, fun i hi => by rw [hb.cell (p := ⟨g, i, none⟩) hg]; exact hc i hi⟩
theorem IR.kept {w w' : World} {v : Value} {zs : List Int} {row : Option Nat} (h : IR w v zs) (hg : w.grownBy w' row) (hne : v.ownBlock ≠ row) : IR w' v zs := by
  obtain ⟨g, cap, rfl, hgl, hc⟩ := h
  exact ⟨g, cap, rfl, Nat.lt_of_lt_of_le hgl hg.size, fun i hi => hg.cell (hc i hi) (by simpa [Value.ownBlock] using hne)⟩
theorem IR.drewN {w : World} {v : Value} {zs : List Int} (h : IR w v zs) (n : Nat) : IR (w.drewN n) v zs := h
/-- v is a slice (not nil) of these integers, at whatever place of its row. -/
def IQ (w : World) (v : Value) (zs : List Int) : Prop := ∃ g o cap, v = .slice (some ⟨g, o, none⟩) zs.length cap ∧ g < w.heap.size ∧ ∀ i, i < zs.length → w.cell? ⟨g, o + i, none⟩ = some (.int .i64 (zs.getD i 0))
theorem IR.io {w : World} {v : Value} {zs : List Int} (h : IR w v zs) : IQ w v zs := by
  obtain ⟨g, cap, h1, h2, h3⟩ := h
  exact ⟨g, 0, cap, h1, h2, fun i hi => by rw [Nat.zero_add]; exact h3 i hi⟩
theorem IQ.below {w w' : World} {v : Value} {zs : List Int} (h : IQ w v zs) (hb : Below w.heap.size w w') : IQ w' v zs := by
  obtain ⟨g, o, cap, rfl, hg, hc⟩ := h
  exact ⟨g, o, cap, rfl, Nat.lt_of_lt_of_le hg hb.size, fun i hi => by rw [hb.cell (p := ⟨g, o + i, none⟩) hg]; exact hc i hi⟩
/-- These integers as cells. -/
def ic (zs : List Int) : List Value := zs.map (Value.int .i64)
theorem ic_len (zs : List Int) : (ic zs).length = zs.length := by simp [ic]
theorem ic_at (zs : List Int) (i : Nat) (h : i < zs.length) : (ic zs)[i]? = some (.int .i64 (zs.getD i 0)) := by
  simp [ic, List.getElem?_eq_getElem h, List.getD_eq_getElem?_getD]
theorem ic_one (zs : List Int) : ∀ v ∈ ic zs, v.oneCell' = true := by
  intro v hv
  simp [ic] at hv
  obtain ⟨z, _, rfl⟩ := hv
  rfl
theorem Try.infoI : (Try.prog.info? 3).map (fun i => (i.zero, i.size, i.bytes)) = some (some (.int .i64 0), 1, 8) := by kernel_rfl
theorem IR.of {w : World} {B n : Nat} {v : Value} {zs : List Int} (h : w.ownsRow B 3 1 v n (ic zs)) (hne : ¬ v = .slice none 0 0) : IR w v zs := by
  have hl := h.1
  rw [ic_len, Nat.mul_one] at hl
  subst hl
  have hlt := h.lt
  rcases h.2 with ⟨q, _⟩ | ⟨g, cap, cur, rfl, _⟩
  · exact absurd q hne
  · exact ⟨g, cap, rfl, (hlt g rfl).2, fun i hi => by rw [h.cellAt i (by omega), ic_at _ _ hi]⟩
end Go.Proofs.Ytibnkpfginffhaa
