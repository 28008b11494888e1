/- A slice of calls (cellarerlaw03.Act) that came in: what a walk is told of it. -/
import Derived.Test.YtbkaeibjhnndfaaRows
import Derived.Test.YtbkaeibjhnndfaaBase
import Derived.Deep.Slices
import Derived.ProofKit
import Derived.OpenShut
namespace Go.Proofs.Ytbkaeibjhnndfaa
open Go.ChangeShapes Go.WideShapes Go.ChangeAt Go.RowKit
set_option linter.unusedVariables false

/-- A call's data. -/
structure ActD where
  kind : Int
  n : Int
  x : Nat
  s : ByteArray
def ActD.ok (d : ActD) : Prop := (-9223372036854775808 ≤ d.kind ∧ d.kind ≤ 9223372036854775807) ∧ (-9223372036854775808 ≤ d.n ∧ d.n ≤ 9223372036854775807) ∧ d.x < 4294967296 ∧ d.s.size ≤ 9223372036854775807
/-- The cells of a call. -/
def ActD.cells (d : ActD) : List Value := [.int .i64 d.kind, .int .i64 d.n, .int .u32 (d.x : Int), .string d.s]
instance : Inhabited ActD := ⟨⟨0, 0, 0, ByteArray.empty⟩⟩
/-- A slice of calls: nil, or it leads to a row of such. -/
def IsActs (w : World) (a : Option Addr) (len cap : Nat) (A : Nat → ActD) : Prop :=
  (a = none ∧ len = 0 ∧ cap = 0) ∨ ∃ x : Addr, a = some x ∧ len ≤ cap ∧ cap ≤ 9223372036854775807 ∧ ∀ i, i < len → (A i).ok ∧ ∀ j v, (A i).cells[j]? = some v → w.cell? (x.add (i * 4 + j)) = some v
theorem Try.cellsAct : Try.prog.cellsOf 31 = 4 := by kernel_rfl
theorem open_acts {H : Type} {enc : TypeId × Value → H} {w : World} {base : Nat} {a : Option Addr} {len cap : Nat} {d : DataW H} {p : List MemPlace}
    (h : DataW.Trod enc Try.prog w base (fun _ => true) true 22 (.slice a len cap) d p) : ∃ A, IsActs w a len cap A := by
  obtain ⟨fuel, hf⟩ := h
  rcases Go.Deep.open_slice Try.underlying22 hf with ⟨hcs, _⟩ | ⟨x, l, c, m, n, D, Pl, hcs, hb, hl, hm, hmm, _, hx⟩
  · simp [Value.cells] at hcs
    obtain ⟨rfl, rfl, rfl⟩ := hcs
    exact ⟨fun _ => default, .inl ⟨rfl, rfl, rfl⟩⟩
  · simp [Value.cells] at hcs
    obtain ⟨rfl, rfl, rfl⟩ := hcs
    simp only [if_true] at hmm
    subst hmm
    have each : ∀ i, i < len → ∃ A : ActD, A.ok ∧ ∀ j v, A.cells[j]? = some v → w.cell? (x.add (i * 4 + j)) = some v := by
      intro i hi
      obtain ⟨cs', h1, h2⟩ := hx i (by omega)
      rw [Try.cellsAct] at h1
      obtain ⟨_, hlen, hcell⟩ := World.cells?_some h1
      obtain ⟨xs, k, hk, hxy, _, hxl, hf⟩ := DataW.trod_struct Try.underlying31 h2
      match cs', hlen with
      | [v0, v1, v2, v3], _ =>
        have hxl' : xs.length = 4 := hxl
        have g0 : DataW.trod enc Try.prog w base (fun _ => true) true k 3 (([v0, v1, v2, v3].drop 0).take (Try.prog.cellsOf 3)) = xs[0]? := hf 0 _ rfl
        have g1 : DataW.trod enc Try.prog w base (fun _ => true) true k 3 (([v0, v1, v2, v3].drop 1).take (Try.prog.cellsOf 3)) = xs[1]? := hf 1 _ rfl
        have g2 : DataW.trod enc Try.prog w base (fun _ => true) true k 29 (([v0, v1, v2, v3].drop 2).take (Try.prog.cellsOf 29)) = xs[2]? := hf 2 _ rfl
        have g3 : DataW.trod enc Try.prog w base (fun _ => true) true k 9 (([v0, v1, v2, v3].drop 3).take (Try.prog.cellsOf 9)) = xs[3]? := hf 3 _ rfl
        rw [List.getElem?_eq_getElem (by omega), show Try.prog.cellsOf 3 = 1 by kernel_rfl] at g0 g1
        rw [List.getElem?_eq_getElem (by omega), show Try.prog.cellsOf 29 = 1 by kernel_rfl] at g2
        rw [List.getElem?_eq_getElem (by omega), show Try.prog.cellsOf 9 = 1 by kernel_rfl] at g3
        simp only [List.drop_zero, List.drop_succ_cons, List.take_succ_cons, List.take_zero] at g0 g1 g2 g3
        obtain ⟨n0, e0, _, w0⟩ := DataW.trod_int Try.underlying3 g0
        obtain ⟨n1, e1, _, w1⟩ := DataW.trod_int Try.underlying3 g1
        obtain ⟨n2, e2, _, w2⟩ := DataW.trod_int Try.underlying29 g2
        obtain ⟨s3, e3, _, w3⟩ := DataW.trod_string Try.underlying9 g3
        have b0 := bounds_i64 w0
        have b1 := bounds_i64 w1
        have b2 := bounds_u32 w2
        obtain ⟨m2, rfl⟩ := Int.eq_ofNat_of_zero_le b2.1
        simp only [List.cons.injEq, and_true] at e0 e1 e2 e3
        subst e0 e1 e2 e3
        refine ⟨⟨n0, n1, m2, s3⟩, ⟨b0, b1, by show m2 < 4294967296; have := b2.2; omega, w3⟩, fun j v hv => ?_⟩
        have hj : j < 4 := by have := (List.getElem?_eq_some_iff.1 hv).1; simpa [ActD.cells] using this
        have hc := hcell j hj
        rw [Go.Deep.add_add] at hc
        rw [hc]
        exact hv
    obtain ⟨A, hA⟩ := Go.Deep.choose_lt each
    exact ⟨A, .inr ⟨x, rfl, hl, hm, hA⟩⟩
end Go.Proofs.Ytbkaeibjhnndfaa
