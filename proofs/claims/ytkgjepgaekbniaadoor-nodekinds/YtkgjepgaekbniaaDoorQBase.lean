/- Small facts of our own that all our contracts share: bytes that a call has gathered, made a string; what lies below. -/
import Derived.WalkKit
import Derived.WalkSpells
import Derived.WalkLawsBesides
import Derived.Handy
import Derived.Laws.BytesArg
namespace Go.Proofs.YtkgjepgaekbniaaDoor
open Go.RowKit

theorem bel_append {B : Nat} {w wr w1 : World} {e : TypeId} {sz n : Nat} {v : Value} {xs : List Value} {o : Obj} (hbel : Below B w wr) (hB : B ≤ wr.heap.size)
    (hown : wr.ownsRow B e sz v n xs) (hg : (wr.alloc o).grownBy w1 v.ownBlock) : Below B w w1 :=
  (hbel.alloc hB o).grown hg (by rw [World.size_alloc]; omega) fun k hk => (hown.lt k hk).1

theorem below_size {B : Nat} {w wr : World} (h : Below B w wr) (hB : B ≤ w.heap.size) : B ≤ wr.heap.size := Nat.le_trans hB h.size

theorem conv_own {P : Program} {w : World} {base : Nat} {src e dst : TypeId} {v : Value} {xs : List Int} {n : Nat} (hs : P.underlying src = some (.slice e)) (he : P.underlying e = some (.int .u8)) (hd : P.underlying dst = some .string)
    (h : w.ownsRow base e 1 v n (xs.map (Value.int .u8))) : (convert src dst v).run P w = .ok (.string (strOfNums xs)) w := by
  have h' := h
  obtain ⟨hl, h⟩ := h
  simp at hl
  rcases h with ⟨rfl, rfl⟩ | ⟨g, cap, cur, rfl, _⟩
  · obtain rfl : xs = [] := by simpa using hl
    exact run_convert_bytes_nil w src e hs he 0 0 dst hd
  · refine run_convert_bytes_arg w src e hs he g 0 n cap xs hl (fun i hi => ?_) dst hd
    have := h'.cellAt i (by omega)
    simp only [Nat.zero_add, this, List.getElem?_map, List.getD]
    rw [List.getElem?_eq_getElem (by omega)]
    rfl
/-- The text of these bytes. -/
def bs (l : List Nat) : ByteArray := strOfNums (l.map fun n : Nat => (n : Int))
/-- These bytes as the cells of a row. -/
def cs (l : List Nat) : List Value := l.map fun n : Nat => Value.int .u8 (n : Int)
theorem cs_eq (l : List Nat) : cs l = (l.map fun n : Nat => (n : Int)).map (Value.int .u8) := by simp [cs]
theorem cs_snoc (l : List Nat) (n : Nat) : cs (l ++ [n]) = cs l ++ [.int .u8 (n : Int)] := by simp [cs]
theorem cs_len (l : List Nat) : (cs l).length = l.length := by simp [cs]

theorem conv_bs {P : Program} {w : World} {base : Nat} {src e dst : TypeId} {v : Value} {l : List Nat} {n : Nat} (hs : P.underlying src = some (.slice e)) (he : P.underlying e = some (.int .u8)) (hd : P.underlying dst = some .string)
    (h : w.ownsRow base e 1 v n (cs l)) : (convert src dst v).run P w = .ok (.string (bs l)) w :=
  conv_own hs he hd (cs_eq l ▸ h)
/-- What a walk is told of a slice of integers that came in: it is nil; or it leads to a row of 'cap' cells, the numbers zs. -/
def IsRow (k : IntKind) (w : World) (a : Option Addr) (len cap : Nat) (zs : List Int) : Prop :=
  (a = none ∧ len = 0 ∧ cap = 0 ∧ zs = []) ∨
  ∃ x, a = some x ∧ len ≤ cap ∧ cap ≤ 140737488351232 ∧ zs.length = cap ∧ (∀ i, i < zs.length → w.cell? (x.add i) = some (.int k (zs.getD i 0))) ∧ ∀ n ∈ zs, (Lit.int k n).wf = true
/-- The same of a slice of strings. -/
def IsStrs (w : World) (a : Option Addr) (len cap : Nat) (ss : List ByteArray) : Prop :=
  (a = none ∧ len = 0 ∧ cap = 0 ∧ ss = []) ∨
  ∃ x, a = some x ∧ len ≤ cap ∧ cap ≤ maxLen ∧ ss.length = cap ∧ (∀ i, i < ss.length → w.cell? (x.add i) = some (.string (ss.getD i ByteArray.empty))) ∧ ∀ s ∈ ss, s.size ≤ maxLen
end Go.Proofs.YtkgjepgaekbniaaDoor
