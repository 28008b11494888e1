/- Small facts of our own that all our contracts share: bytes that a call has gathered, made a string; what lies below. A row of integers that is read. -/
import Derived.WalkKit
import Derived.WalkSpells
import Derived.WalkLawsBesides
import Derived.Handy
import Derived.Laws.BytesArg
import Derived.Test.YtclmjopppaknjaaRows
import Derived.Laws.OwnMore
import Derived.Laws.AppendOwnNone
import Derived.WalkSmall
import Derived.Deep.MidRow
namespace Go.Proofs.Ytclmjopppaknjaa
open Go.RowKit

theorem bel_append {B : Nat} {w wr w1 : World} {e : TypeId} {sz n : Nat} {v : Value} {xs : List Value} {o : Obj} (hbel : Below B w wr) (hB : B ≤ wr.heap.size)
    (hown : wr.ownsRow B e sz v n xs) (hg : (wr.alloc o).grownBy w1 v.ownBlock) : Below B w w1 :=
  (hbel.alloc hB o).grown hg (by rw [World.size_alloc]; omega) fun k hk => (hown.lt k hk).1

theorem below_size {B : Nat} {w wr : World} (h : Below B w wr) (hB : B ≤ w.heap.size) : B ≤ wr.heap.size := Nat.le_trans hB h.size

theorem conv_own {P : Program} {w : World} {base : Nat} {src e dst : TypeId} {v : Value} {xs : List Int} {n : Nat} (hs : P.underlying src = some (.slice e)) (he : P.underlying e = some (.int .u8)) (hd : P.underlying dst = some .string)
    (h : w.ownsRow base e 1 v n (xs.map (Value.int .u8))) : (convert src dst v).run P w = .ok (.string (strOfNums xs)) w := by
  have h' := h
  obtain ⟨hl, h⟩ := h
  simp at hl
  rcases h with ⟨rfl, rfl⟩ | ⟨g, cap, cur, rfl, _⟩
  · obtain rfl : xs = [] := by simpa using hl
    exact run_convert_bytes_nil w src e hs he 0 0 dst hd
  · refine run_convert_bytes_arg w src e hs he g 0 n cap xs hl (fun i hi => ?_) dst hd
    have := h'.cellAt i (by omega)
    simp only [Nat.zero_add, this, List.getElem?_map, List.getD]
    rw [List.getElem?_eq_getElem (by omega)]
    rfl
/-- The text of these bytes. -/
def bs (l : List Nat) : ByteArray := strOfNums (l.map fun n : Nat => (n : Int))
/-- These bytes as the cells of a row. -/
def cs (l : List Nat) : List Value := l.map fun n : Nat => Value.int .u8 (n : Int)
theorem cs_eq (l : List Nat) : cs l = (l.map fun n : Nat => (n : Int)).map (Value.int .u8) := by simp [cs]
theorem cs_snoc (l : List Nat) (n : Nat) : cs (l ++ [n]) = cs l ++ [.int .u8 (n : Int)] := by simp [cs]
theorem cs_len (l : List Nat) : (cs l).length = l.length := by simp [cs]

theorem conv_bs {P : Program} {w : World} {base : Nat} {src e dst : TypeId} {v : Value} {l : List Nat} {n : Nat} (hs : P.underlying src = some (.slice e)) (he : P.underlying e = some (.int .u8)) (hd : P.underlying dst = some .string)
    (h : w.ownsRow base e 1 v n (cs l)) : (convert src dst v).run P w = .ok (.string (bs l)) w :=
  conv_own hs he hd (cs_eq l ▸ h)
/-- What a walk is told of a slice of integers that came in: it is nil; or it leads to a row of 'cap' cells, the numbers zs. -/
def IsRow (k : IntKind) (w : World) (a : Option Addr) (len cap : Nat) (zs : List Int) : Prop :=
  (a = none ∧ len = 0 ∧ cap = 0 ∧ zs = []) ∨
  ∃ x, a = some x ∧ len ≤ cap ∧ cap ≤ 140737488351232 ∧ zs.length = cap ∧ (∀ i, i < zs.length → w.cell? (x.add i) = some (.int k (zs.getD i 0))) ∧ ∀ n ∈ zs, (Lit.int k n).wf = true
/-- The same of a slice of strings. -/
def IsStrs (w : World) (a : Option Addr) (len cap : Nat) (ss : List ByteArray) : Prop :=
  (a = none ∧ len = 0 ∧ cap = 0 ∧ ss = []) ∨
  ∃ x, a = some x ∧ len ≤ cap ∧ cap ≤ maxLen ∧ ss.length = cap ∧ (∀ i, i < ss.length → w.cell? (x.add i) = some (.string (ss.getD i ByteArray.empty))) ∧ ∀ s ∈ ss, s.size ≤ maxLen
end Go.Proofs.Ytclmjopppaknjaa
namespace Go.Proofs.Ytclmjopppaknjaa
open Go.RowKit
set_option linter.unusedVariables false

/-- v is a slice (not nil) of these integers. -/
def IR (w : World) (v : Value) (zs : List Int) : Prop := ∃ g cap, v = .slice (some ⟨g, 0, none⟩) zs.length cap ∧ g < w.heap.size ∧ ∀ i, i < zs.length → w.cell? ⟨g, i, none⟩ = some (.int .i64 (zs.getD i 0))
theorem IR.below {w w' : World} {v : Value} {zs : List Int} (h : IR w v zs) (hb : Below w.heap.size w w') : IR w' v zs := by
  obtain ⟨g, cap, rfl, hg, hc⟩ := h
  exact ⟨g, cap, rfl, Nat.lt_of_lt_of_le hg hb.size, fun i hi => by rw [hb.cell (p := ⟨g, i, none⟩) hg]; exact hc i hi⟩
theorem IR.kept {w w' : World} {v : Value} {zs : List Int} {row : Option Nat} (h : IR w v zs) (hg : w.grownBy w' row) (hne : v.ownBlock ≠ row) : IR w' v zs := by
  obtain ⟨g, cap, rfl, hgl, hc⟩ := h
  exact ⟨g, cap, rfl, Nat.lt_of_lt_of_le hgl hg.size, fun i hi => hg.cell (hc i hi) (by simpa [Value.ownBlock] using hne)⟩
theorem IR.drewN {w : World} {v : Value} {zs : List Int} (h : IR w v zs) (n : Nat) : IR (w.drewN n) v zs := h
/-- v is a slice (not nil) of these integers, at whatever place of its row. -/
def IO (w : World) (v : Value) (zs : List Int) : Prop := ∃ g o cap, v = .slice (some ⟨g, o, none⟩) zs.length cap ∧ g < w.heap.size ∧ ∀ i, i < zs.length → w.cell? ⟨g, o + i, none⟩ = some (.int .i64 (zs.getD i 0))
theorem IR.io {w : World} {v : Value} {zs : List Int} (h : IR w v zs) : IO w v zs := by
  obtain ⟨g, cap, h1, h2, h3⟩ := h
  exact ⟨g, 0, cap, h1, h2, fun i hi => by rw [Nat.zero_add]; exact h3 i hi⟩
theorem IO.below {w w' : World} {v : Value} {zs : List Int} (h : IO w v zs) (hb : Below w.heap.size w w') : IO w' v zs := by
  obtain ⟨g, o, cap, rfl, hg, hc⟩ := h
  exact ⟨g, o, cap, rfl, Nat.lt_of_lt_of_le hg hb.size, fun i hi => by rw [hb.cell (p := ⟨g, o + i, none⟩) hg]; exact hc i hi⟩
/-- These integers as cells. -/
def ic (zs : List Int) : List Value := zs.map (Value.int .i64)
theorem ic_len (zs : List Int) : (ic zs).length = zs.length := by simp [ic]
theorem ic_at (zs : List Int) (i : Nat) (h : i < zs.length) : (ic zs)[i]? = some (.int .i64 (zs.getD i 0)) := by
  simp [ic, List.getElem?_eq_getElem h, List.getD_eq_getElem?_getD]
theorem ic_one (zs : List Int) : ∀ v ∈ ic zs, v.oneCell' = true := by
  intro v hv
  simp [ic] at hv
  obtain ⟨z, _, rfl⟩ := hv
  rfl
theorem Try.infoI : (Try.prog.info? 3).map (fun i => (i.zero, i.size, i.bytes)) = some (some (.int .i64 0), 1, 8) := by kernel_rfl
theorem IR.of {w : World} {B n : Nat} {v : Value} {zs : List Int} (h : w.ownsRow B 3 1 v n (ic zs)) (hne : ¬ v = .slice none 0 0) : IR w v zs := by
  have hl := h.1
  rw [ic_len, Nat.mul_one] at hl
  subst hl
  have hlt := h.lt
  rcases h.2 with ⟨q, _⟩ | ⟨g, cap, cur, rfl, _⟩
  · exact absurd q hne
  · exact ⟨g, cap, rfl, (hlt g rfl).2, fun i hi => by rw [h.cellAt i (by omega), ic_at _ _ hi]⟩
end Go.Proofs.Ytclmjopppaknjaa
