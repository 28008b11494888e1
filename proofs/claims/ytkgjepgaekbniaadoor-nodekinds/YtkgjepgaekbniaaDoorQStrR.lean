/- The element type 'byte', in one closed fact. Rows of texts of one's own. -/
import Derived.Test.YtkgjepgaekbniaaDoorRows
import Derived.Test.YtkgjepgaekbniaaDoorQBase
import Derived.Laws.OwnMore
namespace Go.Proofs.YtkgjepgaekbniaaDoor
open Go.RowKit
theorem Tryd.infoU8 : (Tryd.prog.info? 5).map (fun i => (i.zero, i.size, i.bytes)) = some (some (.int .u8 0), 1, 1) := by kernel_rfl
end Go.Proofs.YtkgjepgaekbniaaDoor
namespace Go.Proofs.YtkgjepgaekbniaaDoor
open Go.RowKit
set_option linter.unusedVariables false

theorem Tryd.infoTx : (Tryd.prog.info? 9).map (fun i => (i.zero, i.size, i.bytes)) = some (some (.string ⟨#[]⟩), 1, 16) := by kernel_rfl
/-- A text of bytes. -/
def mkB (p : List UInt8) : ByteArray := ⟨p.toArray⟩
theorem mkB_eq (p : List UInt8) : mkB p = ⟨p.toArray⟩ := rfl
theorem mkB_inj (a : ByteArray) (b : List UInt8) (h : a.data.toList = b) : a = mkB b := by subst h; rfl
theorem mkB_size (p : List UInt8) : (mkB p).size = p.length := List.size_toArray
/-- Texts as cells. -/
def tc (l : List (List UInt8)) : List Value := l.map fun x => .string (mkB x)
theorem tc_len (l : List (List UInt8)) : (tc l).length = l.length := by simp [tc]
theorem tc_snoc (l : List (List UInt8)) (x : List UInt8) : tc (l ++ [x]) = tc l ++ [.string (mkB x)] := by simp [tc]
theorem tc_set (l : List (List UInt8)) (j : Nat) (x : List UInt8) : tc (l.set j x) = (tc l).set j (.string (mkB x)) := by simp [tc, List.map_set]
theorem tc_get (l : List (List UInt8)) (j : Nat) (h : j < l.length) : (tc l)[j]? = some (.string (mkB (l.getD j []))) := by
  simp [tc, h, List.getD_eq_getElem?_getD]
/-- v is a slice of one's own of these texts; it may be nil. -/
def OT (w : World) (B : Nat) (v : Value) (l : List (List UInt8)) : Prop := w.ownsRow B 9 1 v l.length (tc l)
theorem OT.cell {w : World} {B g cap : Nat} {n : Nat} {l : List (List UInt8)} (h : OT w B (.slice (some ⟨g, 0, none⟩) n cap) l) (j : Nat) (hj : j < l.length) (hn : n = l.length) : w.cell? ⟨g, j, none⟩ = some (.string (mkB (l.getD j []))) := by
  subst hn
  have := World.ownsRow.cellAt h j (by omega)
  rw [this, tc_get l j hj]
theorem OT.form {w : World} {B : Nat} {v : Value} {l : List (List UInt8)} (h : OT w B v l) (hn : 0 < l.length) : ∃ g cap, v = .slice (some ⟨g, 0, none⟩) l.length cap ∧ B ≤ g ∧ g < w.heap.size := by
  have hl := World.ownsRow.lt h
  rcases h.2 with ⟨_, h0⟩ | ⟨g, cap, cur, rfl, hg, _, hc, _⟩
  · omega
  · exact ⟨g, cap, rfl, hg, (hl g rfl).2⟩
theorem OT.below {w w' : World} {B : Nat} {v : Value} {l : List (List UInt8)} (h : OT w B v l) (hb : Below w.heap.size w w') : OT w' B v l := by
  have hlt := World.ownsRow.lt h
  refine ⟨h.1, ?_⟩
  rcases h.2 with h | ⟨g, cap, cur, rfl, h2, h3, h4⟩
  · exact .inl h
  · exact .inr ⟨g, cap, cur, rfl, h2, (hb.block _ (hlt g rfl).2).trans h3, h4⟩
end Go.Proofs.YtkgjepgaekbniaaDoor
