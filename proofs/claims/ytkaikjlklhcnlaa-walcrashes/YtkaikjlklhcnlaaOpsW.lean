/- Calls on a log (cellarerlaw15.Op) that came in: what a walk is told of them. -/
import Derived.Test.YtkaikjlklhcnlaaRows
import Derived.Test.YtkaikjlklhcnlaaDskP
import Derived.Deep.Slices
import Derived.Deep.Grids
import Derived.ProofKit
import Derived.OpenShut
import Derived.SizedLaws
namespace Go.Proofs.Ytkaikjlklhcnlaa
open Go.ChangeShapes Go.WideShapes Go.ChangeAt Go.RowKit
set_option linter.unusedVariables false

/-- A call. -/
structure OpW where
  rst : Bool
  add : ByteArray
  arm : Int
  ks : List Int
instance : Inhabited OpW := ⟨⟨false, ByteArray.empty, 0, []⟩⟩
def OpW.ok (r : OpW) : Prop := (-9223372036854775808 ≤ r.arm ∧ r.arm ≤ 9223372036854775807) ∧ r.add.size ≤ 9223372036854775807 ∧ r.ks.length ≤ 17592186043904
def OpW.cells (r : OpW) (u : Value) : List Value := [.bool r.rst, .string r.add, .int .i64 r.arm, u]
/-- A slice of calls: nil, or it leads to a row of such. -/
def IsOpW (w : World) (a : Option Addr) (len cap : Nat) (l : List OpW) : Prop :=
  l.length = len ∧ ((a = none ∧ len = 0 ∧ cap = 0) ∨ ∃ x : Addr, a = some x ∧ len ≤ cap ∧ cap ≤ 9223372036854775807 ∧ ∀ i, i < len → (l.getD i default).ok ∧ ∃ u, KSl w u (l.getD i default).ks ∧ ∀ j v, ((l.getD i default).cells u)[j]? = some v → w.cell? (x.add (i * 4 + j)) = some v)
theorem Try.cellsOpW : Try.prog.cellsOf 39 = 4 := by kernel_rfl
theorem mkT_of' (s : ByteArray) : s = mkT s.data.toList := by cases s; rfl
theorem weightsAll_mem {H : Type} {P : Program} {e : TypeId} : ∀ {l : List (DataW H)} {d : DataW H}, d ∈ l → ∀ n ∈ d.weights P e, n ∈ DataW.weightsAll P e l
  | a :: l, d, h, n, hn => by
    rw [DataW.weightsAll, List.mem_append]
    rcases List.mem_cons.1 h with rfl | h
    · exact .inl hn
    · exact .inr (weightsAll_mem h n hn)
set_option maxRecDepth 100000 in
theorem open_opw {H : Type} {enc : TypeId × Value → H} {w : World} {base fuel : Nat} {cs : List Value} {y : DataW H × List MemPlace}
    (hlen : cs.length = 4) (h2 : DataW.trod enc Try.prog w base (fun _ => true) true fuel 39 cs = some y) (hw : ∀ n ∈ y.1.weights Try.prog 39, n ≤ reachBytes) : ∃ (r : OpW) (u : Value), r.ok ∧ KSl w u r.ks ∧ cs = r.cells u := by
  obtain ⟨xs, k, hk, hxy, _, hxl, hf⟩ := DataW.trod_struct Try.underlying39 h2
  match cs, hlen with
  | [v0, v1, v2, v3], _ =>
    have hxl' : xs.length = 4 := hxl
    have g0 : DataW.trod enc Try.prog w base (fun _ => true) true k 4 (([v0, v1, v2, v3].drop 0).take (Try.prog.cellsOf 4)) = xs[0]? := hf 0 _ rfl
    have g1 : DataW.trod enc Try.prog w base (fun _ => true) true k 9 (([v0, v1, v2, v3].drop 1).take (Try.prog.cellsOf 9)) = xs[1]? := hf 1 _ rfl
    have g2 : DataW.trod enc Try.prog w base (fun _ => true) true k 3 (([v0, v1, v2, v3].drop 2).take (Try.prog.cellsOf 3)) = xs[2]? := hf 2 _ rfl
    have g3 : DataW.trod enc Try.prog w base (fun _ => true) true k 37 (([v0, v1, v2, v3].drop 3).take (Try.prog.cellsOf 37)) = xs[3]? := hf 3 _ rfl
    rw [List.getElem?_eq_getElem (by omega), show Try.prog.cellsOf 4 = 1 by kernel_rfl] at g0
    rw [List.getElem?_eq_getElem (by omega), show Try.prog.cellsOf 9 = 1 by kernel_rfl] at g1
    rw [List.getElem?_eq_getElem (by omega), show Try.prog.cellsOf 3 = 1 by kernel_rfl] at g2
    rw [List.getElem?_eq_getElem (by omega), show Try.prog.cellsOf 37 = 1 by kernel_rfl] at g3
    simp only [List.drop_zero, List.drop_succ_cons, List.take_succ_cons, List.take_zero] at g0 g1 g2 g3
    obtain ⟨b0, e0, _⟩ := DataW.trod_bool Try.underlying4 g0
    obtain ⟨s1, e1, _, w1⟩ := DataW.trod_string Try.underlying9 g1
    obtain ⟨n2, e2, _, w2⟩ := DataW.trod_int Try.underlying3 g2
    have b2 := bounds_i64 w2
    unfold maxLen at w1
    simp only [List.cons.injEq, and_true] at e0 e1 e2
    subst e0 e1 e2
    rcases open_ints Try.underlying37 Try.underlying3 (by kernel_rfl) g3 with ⟨hcs, _⟩ | ⟨x, l, c, zs, hcs, _, hl, hm, hz, hx, hcell, hwz⟩
    · simp only [List.cons.injEq, and_true] at hcs
      subst hcs
      exact ⟨⟨b0, s1, n2, []⟩, .slice none 0 0, ⟨b2, by omega, by simp⟩, ⟨none, 0, rfl, by simp, by simp, fun i hi => (by simp at hi), fun z hz => (by simp at hz)⟩, rfl⟩
    · simp only [List.cons.injEq, and_true] at hcs
      subst hcs
      simp only [if_true] at hz
      have hwt : (l + (c - l)) * 8 ≤ reachBytes := by
        refine hw _ ?_
        have h4 : (xs.map (·.1))[3]? = some (xs[3]'(by omega)).1 := by rw [List.getElem?_map, List.getElem?_eq_getElem (by omega)]; rfl
        rw [hxy]
        simp only [DataW.weights, Try.underlying39]
        refine DataW.weights_mem_each (j := 3) (t := 37) rfl h4 _ ?_
        rw [hx]
        simp only [DataW.weights, Try.underlying37]
        rw [show Try.prog.bytesOf 3 = 8 by kernel_rfl]
        refine List.mem_cons.2 (.inl ?_)
        congr 1
        unfold lits
        rw [List.length_map, List.length_map, List.length_take, List.length_drop]; omega
      have hcb : c ≤ 140737488351232 := by unfold reachBytes at hwt; omega
      obtain ⟨hk1, hk2⟩ := IsRow.ksl (w := w) (a := some x) (len := l) (cap := c) (zs := zs) (.inr ⟨x, rfl, hl, hcb, hz, hcell, hwz⟩)
      exact ⟨⟨b0, s1, n2, zs.take l⟩, .slice (some x) l c, ⟨b2, by omega, by show (zs.take l).length ≤ _; rw [List.length_take]; unfold reachBytes at hwt; omega⟩, hk1, rfl⟩
set_option maxRecDepth 100000 in
theorem open_opws {H : Type} {enc : TypeId × Value → H} {w : World} {base : Nat} {a : Option Addr} {len cap : Nat} {d : DataW H} {p : List MemPlace}
    (h : DataW.Trod enc Try.prog w base (fun _ => true) true 30 (.slice a len cap) d p) (hw : ∀ n ∈ d.weights Try.prog 30, n ≤ reachBytes) : ∃ l, IsOpW w a len cap l := by
  obtain ⟨fuel, hf⟩ := h
  rcases Go.Deep.open_slice Try.underlying30 hf with ⟨hcs, _⟩ | ⟨x, l, c, m, n, D, Pl, hcs, hb, hl, hm, hmm, hxe, hx⟩
  · simp [Value.cells] at hcs
    obtain ⟨rfl, rfl, rfl⟩ := hcs
    exact ⟨[], rfl, .inl ⟨rfl, rfl, rfl⟩⟩
  · simp [Value.cells] at hcs
    obtain ⟨rfl, rfl, rfl⟩ := hcs
    simp only [if_true] at hmm
    subst hmm
    unfold maxLen at hm
    have hde : d = .slice ((List.range len).map D) ((List.range (m - len)).map fun j => D (len + j)) := congrArg Prod.fst hxe
    have each : ∀ i, i < len → ∃ R : OpW, R.ok ∧ ∃ u, KSl w u R.ks ∧ ∀ j v, (R.cells u)[j]? = some v → w.cell? (x.add (i * 4 + j)) = some v := by
      intro i hi
      obtain ⟨cs', h1, h2⟩ := hx i (by omega)
      rw [Try.cellsOpW] at h1
      obtain ⟨_, hlen, hcell⟩ := World.cells?_some h1
      have hwi : ∀ n ∈ (D i).weights Try.prog 39, n ≤ reachBytes := fun n hn => by
        refine hw n ?_
        rw [hde]
        simp only [DataW.weights, Try.underlying30]
        have hm1 := weightsAll_mem (P := Try.prog) (e := 39) (l := (List.range len).map D) (d := D i) (List.mem_map.2 ⟨i, List.mem_range.2 hi, rfl⟩) n hn
        exact List.mem_cons.2 (.inr (List.mem_append.2 (.inl hm1)))
      obtain ⟨r, u, r1, r2, r3⟩ := open_opw hlen h2 hwi
      refine ⟨r, r1, u, r2, fun j v hv => ?_⟩
      have hj : j < 4 := by have := (List.getElem?_eq_some_iff.1 hv).1; simpa [OpW.cells] using this
      have hc := hcell j hj
      rw [Go.Deep.add_add] at hc
      rw [hc, r3]
      exact hv
    obtain ⟨A, hA⟩ := Go.Deep.choose_lt each
    have hg : ∀ i, i < len → ((List.range len).map A).getD i default = A i := fun i hi => by
      rw [List.getD_eq_getElem?_getD, List.getElem?_map, List.getElem?_range hi]; rfl
    refine ⟨(List.range len).map A, by simp, .inr ⟨x, rfl, hl, hm, fun i hi => ?_⟩⟩
    rw [hg i hi]
    exact hA i hi
/-- A slice of bools: nil, or it leads to a row of such. -/
def IsBls (w : World) (a : Option Addr) (len cap : Nat) (B : Nat → Bool) : Prop :=
  (a = none ∧ len = 0 ∧ cap = 0) ∨ ∃ x : Addr, a = some x ∧ len ≤ cap ∧ cap ≤ 9223372036854775807 ∧ ∀ i, i < cap → w.cell? (x.add i) = some (.bool (B i))
theorem open_bls {H : Type} {enc : TypeId × Value → H} {w : World} {base : Nat} {a : Option Addr} {len cap : Nat} {d : DataW H} {p : List MemPlace}
    (h : DataW.Trod enc Try.prog w base (fun _ => true) true 31 (.slice a len cap) d p) : ∃ B, IsBls w a len cap B := by
  obtain ⟨fuel, hf⟩ := h
  rcases Go.Deep.open_bools Try.underlying31 Try.underlying4 (by kernel_rfl) hf with ⟨hcs, _⟩ | ⟨x, l, c, B, hcs, _, hl, hm, _, hc⟩
  · simp [Value.cells] at hcs
    obtain ⟨rfl, rfl, rfl⟩ := hcs
    exact ⟨fun _ => false, .inl ⟨rfl, rfl, rfl⟩⟩
  · simp [Value.cells] at hcs
    obtain ⟨rfl, rfl, rfl⟩ := hcs
    unfold maxLen at hm
    exact ⟨B, .inr ⟨x, rfl, hl, hm, hc⟩⟩
end Go.Proofs.Ytkaikjlklhcnlaa
