/- Rows of bits of one's own. -/
import Derived.Test.YthkppipdflmekaaRows
import Derived.Test.YthkppipdflmekaaQBitioM
import Derived.Deep.OwnRows
import Derived.Laws.OwnMore
import Derived.Deep.QuietTactic
import Derived.BigQuiet
namespace Go.Proofs.Ythkppipdflmekaa
open Go.RowKit
set_option linter.unusedVariables false

theorem Try.infoBo : (Try.prog.info? 4).map (fun i => (i.zero, i.size, i.bytes)) = some (some (.bool false), 1, 1) := by kernel_rfl
/-- Bits as cells. -/
def cbs (l : List Bool) : List Value := l.map Value.bool
theorem cbs_len (l : List Bool) : (cbs l).length = l.length := by simp [cbs]
theorem cbs_snoc (l : List Bool) (b : Bool) : cbs (l ++ [b]) = cbs l ++ [.bool b] := by simp [cbs]
theorem cbs_append (l m : List Bool) : cbs (l ++ m) = cbs l ++ cbs m := by simp [cbs]
theorem cbs_at (l : List Bool) (i : Nat) (h : i < l.length) : (cbs l)[i]? = some (.bool (l.getD i false)) := by
  simp [cbs, List.getElem?_eq_getElem h, List.getD_eq_getElem?_getD]
theorem cbs_one (l : List Bool) : ∀ v ∈ cbs l, v.oneCell' = true := by
  intro v hv
  simp [cbs] at hv
  rcases hv with ⟨_, rfl⟩ | ⟨_, rfl⟩ <;> rfl
/-- v is a slice of the bits L, in a block that is not below B. -/
def OB (w : World) (B : Nat) (v : Value) (L : List Bool) : Prop := ∃ g cap, v = .slice (some ⟨g, 0, none⟩) L.length cap ∧ w.ownsRow B 4 1 v L.length (cbs L)
theorem OB.drew {w : World} {B : Nat} {v : Value} {L : List Bool} (h : OB w B v L) : OB w.drew B v L := h
theorem OB.drewN {w : World} {B : Nat} {v : Value} {L : List Bool} (h : OB w B v L) (n : Nat) : OB (w.drewN n) B v L := h
theorem OB.kept {w w' : World} {B : Nat} {v : Value} {L : List Bool} {row : Option Nat} (h : OB w B v L) (hg : w.grownBy w' row) (hne : v.ownBlock ≠ row) : OB w' B v L := by
  obtain ⟨g, cap, rfl, ho⟩ := h
  exact ⟨g, cap, rfl, ho.kept hg (.inr hne)⟩
theorem OB.below {w w' : World} {B : Nat} {v : Value} {L : List Bool} (h : OB w B v L) (hb : Below w.heap.size w w') : OB w' B v L := by
  obtain ⟨g, cap, rfl, ho⟩ := h
  exact ⟨g, cap, rfl, ho.kept (row := none) ⟨hb.os, hb.tape, hb.output, hb.size, fun k hk _ => hb.block k hk⟩ (.inr (by simp [Value.ownBlock]))⟩
theorem OB.mono {w : World} {B C : Nat} {v : Value} {L : List Bool} (h : OB w B v L) (hC : C ≤ B) : OB w C v L := by
  obtain ⟨g, cap, rfl, h1, h2⟩ := h
  refine ⟨g, cap, rfl, h1, ?_⟩
  rcases h2 with q | ⟨g', cap', cur', r1, r2, r3⟩
  · exact .inl q
  · exact .inr ⟨g', cap', cur', r1, Nat.le_trans hC r2, r3⟩
theorem OB.of {w : World} {B n : Nat} {v : Value} {L : List Bool} (h : w.ownsRow B 4 1 v n (cbs L)) (hne : v ≠ .slice none 0 0) : OB w B v L := by
  have hl := h.1
  rw [cbs_len, Nat.mul_one] at hl
  subst hl
  rcases h.2 with ⟨q, _⟩ | ⟨g, cap, cur, rfl, _⟩
  · exact absurd q hne
  · exact ⟨g, cap, rfl, h⟩
theorem OB.cell {w : World} {B g cap : Nat} {L : List Bool} (h : OB w B (.slice (some ⟨g, 0, none⟩) L.length cap) L) (i : Nat) (hi : i < L.length) : w.cell? ⟨g, i, none⟩ = some (.bool (L.getD i false)) := by
  obtain ⟨g', cap', e, ho⟩ := h
  rw [ho.cellAt i (by omega), cbs_at _ _ hi]
theorem OB.lt {w : World} {B g n cap : Nat} {L : List Bool} (h : OB w B (.slice (some ⟨g, 0, none⟩) n cap) L) : B ≤ g ∧ g < w.heap.size := by
  obtain ⟨g', cap', e, ho⟩ := h
  exact ho.lt g rfl
theorem row_owns {w : World} {g n B : Nat} {L : List Bool} (h : w.rowIs g 4 n (fun j => .bool (L.getD j false))) (hB : B ≤ g) (hn : L.length = n) (hm : n ≤ 1000000) : OB w B (.slice (some ⟨g, 0, none⟩) n n) L := by
  obtain ⟨c, h1, h2, h3⟩ := h
  subst hn
  refine ⟨g, L.length, rfl, by rw [cbs_len, Nat.mul_one], .inr ⟨g, L.length, c, rfl, hB, h1, Nat.le_refl _, by unfold maxLen; omega, by rw [h2, Nat.mul_one], ?_⟩⟩
  apply List.ext_getElem?
  intro i
  rw [Nat.mul_one, List.getElem?_take]
  by_cases hi : i < L.length
  · rw [if_pos hi, cbs_at _ _ hi, ← h3 i hi]; simp
  · rw [if_neg hi, List.getElem?_eq_none (by rw [cbs_len]; omega)]
theorem copied {w w1 : World} {v1 : Value} {L : List Bool} {N : Nat} (hown : w1.ownsRow w.heap.size 4 1 v1 N (cbs L)) (hg : (w.alloc (.cells #[] 4)).grownBy w1 (Value.ownBlock (.slice (some ⟨w.heap.size, 0, none⟩) 0 0)))
    (hne : ¬ v1 = .slice none 0 0) : OB w1 w.heap.size v1 L ∧ Below w.heap.size w w1 := by
  refine ⟨OB.of hown hne, ?_⟩
  exact ((Below.refl _ w).alloc (Nat.le_refl _) (.cells #[] 4)).grown hg (by simp) (fun k hk => by simp [Value.ownBlock] at hk; omega)
/-- One bit behind a row of one's own. -/
theorem OB.push {w wr w1 : World} {B : Nat} {v v1 : Value} {L : List Bool} {b : Bool} {n : Nat} (hB : B ≤ wr.heap.size) (hb : Below B w wr) (hO : wr.ownsRow B 4 1 v n (cbs L)) (o : Obj) (hown : w1.ownsRow B 4 1 v1 (n + 1) (cbs L ++ [.bool b])) (hg : (wr.alloc o).grownBy w1 v.ownBlock)
    (hne : ¬ v1 = .slice none 0 0) : OB w1 B v1 (L ++ [b]) ∧ Below B w w1 := by
  rw [← cbs_snoc] at hown
  exact ⟨OB.of hown hne, bel_append hb hB hO hg⟩
/-- A bit of a row of one's own is turned. -/
theorem OB.set {w : World} {B g cap : Nat} {L : List Bool} (h : OB w B (.slice (some ⟨g, 0, none⟩) L.length cap) L) (k : Nat) (b : Bool) : OB (w.setCell ⟨g, k, none⟩ (.bool b)) B (.slice (some ⟨g, 0, none⟩) (L.set k b).length cap) (L.set k b) := by
  obtain ⟨g', cap', e, ho⟩ := h
  refine ⟨g, cap, rfl, ?_⟩
  have := (ho.stored k (.bool b)).1
  rw [List.length_set]
  unfold cbs at *
  rw [List.map_set]
  exact this
theorem OB.frozen {w : World} {B g cap : Nat} {L : List Bool} (h : OB w B (.slice (some ⟨g, 0, none⟩) L.length cap) L) (k : Nat) : w.frozen? ⟨g, k, none⟩ = false := by
  obtain ⟨g', cap', e, ho⟩ := h
  exact ho.frozenAt k
/-- v is a slice of the bits L, wherever it lies. -/
def RB (w : World) (v : Value) (L : List Bool) : Prop := ∃ g cap, v = .slice (some ⟨g, 0, none⟩) L.length cap ∧ g < w.heap.size ∧ ∀ i, i < L.length → w.cell? ⟨g, i, none⟩ = some (.bool (L.getD i false))
theorem OB.rb {w : World} {B : Nat} {v : Value} {L : List Bool} (h : OB w B v L) : RB w v L := by
  obtain ⟨g, cap, rfl, ho⟩ := h
  exact ⟨g, cap, rfl, (OB.lt ⟨g, cap, rfl, ho⟩).2, fun i hi => OB.cell ⟨g, cap, rfl, ho⟩ i hi⟩
theorem RB.below {w w' : World} {v : Value} {L : List Bool} (h : RB w v L) (hb : Below w.heap.size w w') : RB w' v L := by
  obtain ⟨g, cap, rfl, hg, hc⟩ := h
  exact ⟨g, cap, rfl, Nat.lt_of_lt_of_le hg hb.size, fun i hi => by rw [hb.cell (p := ⟨g, i, none⟩) hg]; exact hc i hi⟩
end Go.Proofs.Ythkppipdflmekaa
