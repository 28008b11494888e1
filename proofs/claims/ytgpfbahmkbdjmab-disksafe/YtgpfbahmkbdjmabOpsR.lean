/- Calls on a disk (cellarerlaw14.Op) that came in: what a walk is told of them. -/
import Derived.Test.YtgpfbahmkbdjmabRows
import Derived.Test.YtgpfbahmkbdjmabDskP
import Derived.Deep.Slices
import Derived.ProofKit
import Derived.OpenShut
import Derived.SizedLaws
namespace Go.Proofs.Ytgpfbahmkbdjmab
open Go.ChangeShapes Go.WideShapes Go.ChangeAt Go.RowKit
set_option linter.unusedVariables false

/-- A call. -/
structure OpR where
  kind : Int
  fr : List UInt8
  to : List UInt8
  at' : Int
  ks : List Int
instance : Inhabited OpR := ⟨⟨0, [], [], 0, []⟩⟩
def OpR.ok (r : OpR) : Prop := (-9223372036854775808 ≤ r.kind ∧ r.kind ≤ 9223372036854775807) ∧ (-9223372036854775808 ≤ r.at' ∧ r.at' ≤ 9223372036854775807) ∧ r.fr.length ≤ 9223372036854775807 ∧ r.to.length ≤ 9223372036854775807 ∧ r.ks.length ≤ 17592186043904
def OpR.cells (r : OpR) (u : Value) : List Value := [.int .i64 r.kind, .string (mkT r.fr), .string (mkT r.to), .int .i64 r.at', u]
/-- A slice of calls: nil, or it leads to a row of such. -/
def IsOps (w : World) (a : Option Addr) (len cap : Nat) (l : List OpR) : Prop :=
  l.length = len ∧ ((a = none ∧ len = 0 ∧ cap = 0) ∨ ∃ x : Addr, a = some x ∧ len ≤ cap ∧ cap ≤ 9223372036854775807 ∧ ∀ i, i < len → (l.getD i default).ok ∧ ∃ u, KSl w u (l.getD i default).ks ∧ ∀ j v, ((l.getD i default).cells u)[j]? = some v → w.cell? (x.add (i * 5 + j)) = some v)
theorem Try.cellsOp : Try.prog.cellsOf 30 = 5 := by kernel_rfl
theorem mkT_of' (s : ByteArray) : s = mkT s.data.toList := by cases s; rfl
theorem weightsAll_mem {H : Type} {P : Program} {e : TypeId} : ∀ {l : List (DataW H)} {d : DataW H}, d ∈ l → ∀ n ∈ d.weights P e, n ∈ DataW.weightsAll P e l
  | a :: l, d, h, n, hn => by
    rw [DataW.weightsAll, List.mem_append]
    rcases List.mem_cons.1 h with rfl | h
    · exact .inl hn
    · exact .inr (weightsAll_mem h n hn)
set_option maxRecDepth 100000 in
theorem open_op {H : Type} {enc : TypeId × Value → H} {w : World} {base fuel : Nat} {cs : List Value} {y : DataW H × List MemPlace}
    (hlen : cs.length = 5) (h2 : DataW.trod enc Try.prog w base (fun _ => true) true fuel 30 cs = some y) (hw : ∀ n ∈ y.1.weights Try.prog 30, n ≤ reachBytes) : ∃ (r : OpR) (u : Value), r.ok ∧ KSl w u r.ks ∧ cs = r.cells u := by
  obtain ⟨xs, k, hk, hxy, _, hxl, hf⟩ := DataW.trod_struct Try.underlying30 h2
  match cs, hlen with
  | [v0, v1, v2, v3, v4], _ =>
    have hxl' : xs.length = 5 := hxl
    have g0 : DataW.trod enc Try.prog w base (fun _ => true) true k 3 (([v0, v1, v2, v3, v4].drop 0).take (Try.prog.cellsOf 3)) = xs[0]? := hf 0 _ rfl
    have g1 : DataW.trod enc Try.prog w base (fun _ => true) true k 9 (([v0, v1, v2, v3, v4].drop 1).take (Try.prog.cellsOf 9)) = xs[1]? := hf 1 _ rfl
    have g2 : DataW.trod enc Try.prog w base (fun _ => true) true k 9 (([v0, v1, v2, v3, v4].drop 2).take (Try.prog.cellsOf 9)) = xs[2]? := hf 2 _ rfl
    have g3 : DataW.trod enc Try.prog w base (fun _ => true) true k 3 (([v0, v1, v2, v3, v4].drop 3).take (Try.prog.cellsOf 3)) = xs[3]? := hf 3 _ rfl
    have g4 : DataW.trod enc Try.prog w base (fun _ => true) true k 24 (([v0, v1, v2, v3, v4].drop 4).take (Try.prog.cellsOf 24)) = xs[4]? := hf 4 _ rfl
    rw [List.getElem?_eq_getElem (by omega), show Try.prog.cellsOf 3 = 1 by kernel_rfl] at g0 g3
    rw [List.getElem?_eq_getElem (by omega), show Try.prog.cellsOf 9 = 1 by kernel_rfl] at g1 g2
    rw [List.getElem?_eq_getElem (by omega), show Try.prog.cellsOf 24 = 1 by kernel_rfl] at g4
    simp only [List.drop_zero, List.drop_succ_cons, List.take_succ_cons, List.take_zero] at g0 g1 g2 g3 g4
    obtain ⟨n0, e0, _, w0⟩ := DataW.trod_int Try.underlying3 g0
    obtain ⟨s1, e1, _, w1⟩ := DataW.trod_string Try.underlying9 g1
    obtain ⟨s2, e2, _, w2⟩ := DataW.trod_string Try.underlying9 g2
    obtain ⟨n3, e3, _, w3⟩ := DataW.trod_int Try.underlying3 g3
    have b0 := bounds_i64 w0
    have b3 := bounds_i64 w3
    unfold maxLen at w1 w2
    simp only [List.cons.injEq, and_true] at e0 e1 e2 e3
    subst e0 e1 e2 e3
    have z1 : s1.data.toList.length ≤ 9223372036854775807 := by have : s1.data.toList.length = s1.size := by simp
                                                                omega
    have z2 : s2.data.toList.length ≤ 9223372036854775807 := by have : s2.data.toList.length = s2.size := by simp
                                                                omega
    rcases open_ints Try.underlying24 Try.underlying3 (by kernel_rfl) g4 with ⟨hcs, _⟩ | ⟨x, l, c, zs, hcs, _, hl, hm, hz, hx, hcell, hwz⟩
    · simp only [List.cons.injEq, and_true] at hcs
      subst hcs
      refine ⟨⟨n0, s1.data.toList, s2.data.toList, n3, []⟩, .slice none 0 0, ⟨b0, b3, z1, z2, by simp⟩, ⟨none, 0, rfl, by simp, by simp, fun i hi => (by simp at hi), fun z hz => (by simp at hz)⟩, ?_⟩
      simp only [OpR.cells, ← mkT_of']
    · simp only [List.cons.injEq, and_true] at hcs
      subst hcs
      simp only [if_true] at hz
      have hwt : (l + (c - l)) * 8 ≤ reachBytes := by
        refine hw _ ?_
        have h4 : (xs.map (·.1))[4]? = some (xs[4]'(by omega)).1 := by rw [List.getElem?_map, List.getElem?_eq_getElem (by omega)]; rfl
        rw [hxy]
        simp only [DataW.weights, Try.underlying30]
        refine DataW.weights_mem_each (j := 4) (t := 24) rfl h4 _ ?_
        rw [hx]
        simp only [DataW.weights, Try.underlying24]
        rw [show Try.prog.bytesOf 3 = 8 by kernel_rfl]
        refine List.mem_cons.2 (.inl ?_)
        congr 1
        unfold lits
        rw [List.length_map, List.length_map, List.length_take, List.length_drop]; omega
      have hcb : c ≤ 140737488351232 := by unfold reachBytes at hwt; omega
      obtain ⟨hk1, hk2⟩ := IsRow.ksl (w := w) (a := some x) (len := l) (cap := c) (zs := zs) (.inr ⟨x, rfl, hl, hcb, hz, hcell, hwz⟩)
      refine ⟨⟨n0, s1.data.toList, s2.data.toList, n3, zs.take l⟩, .slice (some x) l c, ⟨b0, b3, z1, z2, by show (zs.take l).length ≤ _; rw [List.length_take]; unfold reachBytes at hwt; omega⟩, hk1, ?_⟩
      simp only [OpR.cells, ← mkT_of']
set_option maxRecDepth 100000 in
theorem open_ops {H : Type} {enc : TypeId × Value → H} {w : World} {base : Nat} {a : Option Addr} {len cap : Nat} {d : DataW H} {p : List MemPlace}
    (h : DataW.Trod enc Try.prog w base (fun _ => true) true 22 (.slice a len cap) d p) (hw : ∀ n ∈ d.weights Try.prog 22, n ≤ reachBytes) : ∃ l, IsOps w a len cap l := by
  obtain ⟨fuel, hf⟩ := h
  rcases Go.Deep.open_slice Try.underlying22 hf with ⟨hcs, _⟩ | ⟨x, l, c, m, n, D, Pl, hcs, hb, hl, hm, hmm, hxe, hx⟩
  · simp [Value.cells] at hcs
    obtain ⟨rfl, rfl, rfl⟩ := hcs
    exact ⟨[], rfl, .inl ⟨rfl, rfl, rfl⟩⟩
  · simp [Value.cells] at hcs
    obtain ⟨rfl, rfl, rfl⟩ := hcs
    simp only [if_true] at hmm
    subst hmm
    unfold maxLen at hm
    have hde : d = .slice ((List.range len).map D) ((List.range (m - len)).map fun j => D (len + j)) := congrArg Prod.fst hxe
    have each : ∀ i, i < len → ∃ R : OpR, R.ok ∧ ∃ u, KSl w u R.ks ∧ ∀ j v, (R.cells u)[j]? = some v → w.cell? (x.add (i * 5 + j)) = some v := by
      intro i hi
      obtain ⟨cs', h1, h2⟩ := hx i (by omega)
      rw [Try.cellsOp] at h1
      obtain ⟨_, hlen, hcell⟩ := World.cells?_some h1
      have hwi : ∀ n ∈ (D i).weights Try.prog 30, n ≤ reachBytes := fun n hn => by
        refine hw n ?_
        rw [hde]
        simp only [DataW.weights, Try.underlying22]
        have hm1 := weightsAll_mem (P := Try.prog) (e := 30) (l := (List.range len).map D) (d := D i) (List.mem_map.2 ⟨i, List.mem_range.2 hi, rfl⟩) n hn
        exact List.mem_cons.2 (.inr (List.mem_append.2 (.inl hm1)))
      obtain ⟨r, u, r1, r2, r3⟩ := open_op hlen h2 hwi
      refine ⟨r, r1, u, r2, fun j v hv => ?_⟩
      have hj : j < 5 := by have := (List.getElem?_eq_some_iff.1 hv).1; simpa [OpR.cells] using this
      have hc := hcell j hj
      rw [Go.Deep.add_add] at hc
      rw [hc, r3]
      exact hv
    obtain ⟨A, hA⟩ := Go.Deep.choose_lt each
    have hg : ∀ i, i < len → ((List.range len).map A).getD i default = A i := fun i hi => by
      rw [List.getD_eq_getElem?_getD, List.getElem?_map, List.getElem?_range hi]; rfl
    refine ⟨(List.range len).map A, by simp, .inr ⟨x, rfl, hl, hm, fun i hi => ?_⟩⟩
    rw [hg i hi]
    exact hA i hi
end Go.Proofs.Ytgpfbahmkbdjmab
