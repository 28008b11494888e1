/- Records of nodes (cellarerref12.N) that came in: what a walk is told of them. -/
import Derived.Test.YtkgjepgaekbniaaDoorRows
import Derived.Test.YtkgjepgaekbniaaDoorQBase
import Derived.Test.YtkgjepgaekbniaaDoorQNodC
import Derived.Deep.Slices
import Derived.ProofKit
import Derived.OpenShut
import Derived.SliceStrings
namespace Go.Proofs.YtkgjepgaekbniaaDoor
open Go.ChangeShapes Go.WideShapes Go.ChangeAt Go.RowKit
set_option linter.unusedVariables false

/-- A record. -/
structure Rc where
  kind : Int
  at' : List UInt8
  mode : Int
  time : Int
  size : Int
  ch : List (List UInt8)
  tg : List UInt8
instance : Inhabited Rc := ⟨⟨0, [], 0, 0, 0, [], []⟩⟩
def I64 (x : Int) : Prop := -9223372036854775808 ≤ x ∧ x ≤ 9223372036854775807
def Rc.ok (r : Rc) : Prop := I64 r.kind ∧ I64 r.mode ∧ I64 r.time ∧ I64 r.size ∧ r.at'.length ≤ 9223372036854775807 ∧ r.tg.length ≤ 9223372036854775807 ∧ r.ch.length ≤ 9223372036854775807 ∧ ∀ x ∈ r.ch, x.length ≤ 9223372036854775807
def Rc.cells (r : Rc) (u : Value) : List Value := [.int .i64 r.kind, .string (mkB r.at'), .int .i64 r.mode, .int .i64 r.time, .int .i64 r.size, u, .string (mkB r.tg)]
/-- A slice of records: nil, or it leads to a row of such. -/
def IsRecs (w : World) (a : Option Addr) (len cap : Nat) (l : List Rc) : Prop :=
  l.length = len ∧ ((a = none ∧ len = 0 ∧ cap = 0) ∨ ∃ x : Addr, a = some x ∧ len ≤ cap ∧ cap ≤ 9223372036854775807 ∧ ∀ i, i < len → (l.getD i default).ok ∧ ∃ u, TR w u (l.getD i default).ch ∧ ∀ j v, ((l.getD i default).cells u)[j]? = some v → w.cell? (x.add (i * 7 + j)) = some v)
theorem Tryd.cellsN : Tryd.prog.cellsOf 24 = 7 := by kernel_rfl
theorem mkB_of (s : ByteArray) : s = mkB s.data.toList := by cases s; rfl
set_option maxRecDepth 100000 in
theorem open_rec {H : Type} {enc : TypeId × Value → H} {w : World} {base fuel : Nat} {cs : List Value} {y : DataW H × List MemPlace}
    (hlen : cs.length = 7) (h2 : DataW.trod enc Tryd.prog w base (fun _ => true) true fuel 24 cs = some y) : ∃ (r : Rc) (u : Value), r.ok ∧ TR w u r.ch ∧ cs = r.cells u := by
  obtain ⟨xs, k, hk, hxy, _, hxl, hf⟩ := DataW.trod_struct Tryd.underlying24 h2
  match cs, hlen with
  | [v0, v1, v2, v3, v4, v5, v6], _ =>
    have hxl' : xs.length = 7 := hxl
    have g0 : DataW.trod enc Tryd.prog w base (fun _ => true) true k 3 (([v0, v1, v2, v3, v4, v5, v6].drop 0).take (Tryd.prog.cellsOf 3)) = xs[0]? := hf 0 _ rfl
    have g1 : DataW.trod enc Tryd.prog w base (fun _ => true) true k 9 (([v0, v1, v2, v3, v4, v5, v6].drop 1).take (Tryd.prog.cellsOf 9)) = xs[1]? := hf 1 _ rfl
    have g2 : DataW.trod enc Tryd.prog w base (fun _ => true) true k 3 (([v0, v1, v2, v3, v4, v5, v6].drop 2).take (Tryd.prog.cellsOf 3)) = xs[2]? := hf 2 _ rfl
    have g3 : DataW.trod enc Tryd.prog w base (fun _ => true) true k 3 (([v0, v1, v2, v3, v4, v5, v6].drop 3).take (Tryd.prog.cellsOf 3)) = xs[3]? := hf 3 _ rfl
    have g4 : DataW.trod enc Tryd.prog w base (fun _ => true) true k 3 (([v0, v1, v2, v3, v4, v5, v6].drop 4).take (Tryd.prog.cellsOf 3)) = xs[4]? := hf 4 _ rfl
    have g5 : DataW.trod enc Tryd.prog w base (fun _ => true) true k 22 (([v0, v1, v2, v3, v4, v5, v6].drop 5).take (Tryd.prog.cellsOf 22)) = xs[5]? := hf 5 _ rfl
    have g6 : DataW.trod enc Tryd.prog w base (fun _ => true) true k 9 (([v0, v1, v2, v3, v4, v5, v6].drop 6).take (Tryd.prog.cellsOf 9)) = xs[6]? := hf 6 _ rfl
    rw [List.getElem?_eq_getElem (by omega), show Tryd.prog.cellsOf 3 = 1 by kernel_rfl] at g0 g2 g3 g4
    rw [List.getElem?_eq_getElem (by omega), show Tryd.prog.cellsOf 9 = 1 by kernel_rfl] at g1 g6
    rw [List.getElem?_eq_getElem (by omega), show Tryd.prog.cellsOf 22 = 1 by kernel_rfl] at g5
    simp only [List.drop_zero, List.drop_succ_cons, List.take_succ_cons, List.take_zero] at g0 g1 g2 g3 g4 g5 g6
    obtain ⟨n0, e0, _, w0⟩ := DataW.trod_int Tryd.underlying3 g0
    obtain ⟨s1, e1, _, w1⟩ := DataW.trod_string Tryd.underlying9 g1
    obtain ⟨n2, e2, _, w2⟩ := DataW.trod_int Tryd.underlying3 g2
    obtain ⟨n3, e3, _, w3⟩ := DataW.trod_int Tryd.underlying3 g3
    obtain ⟨n4, e4, _, w4⟩ := DataW.trod_int Tryd.underlying3 g4
    obtain ⟨s6, e6, _, w6⟩ := DataW.trod_string Tryd.underlying9 g6
    have b0 := bounds_i64 w0
    have b2 := bounds_i64 w2
    have b3 := bounds_i64 w3
    have b4 := bounds_i64 w4
    unfold maxLen at w1 w6
    simp only [List.cons.injEq, and_true] at e0 e1 e2 e3 e4 e6
    subst e0 e1 e2 e3 e4 e6
    have z1 : s1.data.toList.length ≤ 9223372036854775807 := by have : s1.data.toList.length = s1.size := by simp
                                                                omega
    have z6 : s6.data.toList.length ≤ 9223372036854775807 := by have : s6.data.toList.length = s6.size := by simp
                                                                omega
    rcases open_strings Tryd.underlying22 Tryd.underlying9 (by kernel_rfl) g5 with ⟨hcs, _⟩ | ⟨x, l, c, ss, hcs, _, hl, hm, hz, _, hcell, hwz⟩
    · simp only [List.cons.injEq, and_true] at hcs
      subst hcs
      refine ⟨⟨n0, s1.data.toList, n2, n3, n4, [], s6.data.toList⟩, .slice none 0 0, ⟨b0, b2, b3, b4, z1, z6, by simp, by simp⟩, ⟨none, 0, rfl, by simp, fun i hi => by simp at hi⟩, ?_⟩
      simp only [Rc.cells, ← mkB_of]
    · simp only [List.cons.injEq, and_true] at hcs
      subst hcs
      simp only [if_true] at hz
      unfold maxLen at hm
      have hsl : ((ss.take l).map fun s => s.data.toList).length = l := by rw [List.length_map, List.length_take]; omega
      refine ⟨⟨n0, s1.data.toList, n2, n3, n4, (ss.take l).map (fun s => s.data.toList), s6.data.toList⟩, .slice (some x) l c, ⟨b0, b2, b3, b4, z1, z6, by show ((ss.take l).map fun s => s.data.toList).length ≤ _; omega, ?_⟩, ⟨some x, c, by rw [hsl], by rw [hsl]; exact hl, fun i hi => ⟨x, rfl, ?_⟩⟩, ?_⟩
      · intro y hy
        obtain ⟨s, hs, rfl⟩ := List.mem_map.1 hy
        have := hwz s (List.mem_of_mem_take hs)
        unfold maxLen at this
        have : s.data.toList.length = s.size := by simp
        omega
      · rw [hsl] at hi
        rw [hcell i (by omega)]
        congr 2
        rw [List.getD_eq_getElem?_getD, List.getD_eq_getElem?_getD, List.getElem?_map, List.getElem?_take, if_pos hi, List.getElem?_eq_getElem (by omega)]
        exact mkB_of _
      · simp only [Rc.cells, ← mkB_of]
set_option maxRecDepth 100000 in
theorem open_recs {H : Type} {enc : TypeId × Value → H} {w : World} {base : Nat} {a : Option Addr} {len cap : Nat} {d : DataW H} {p : List MemPlace}
    (h : DataW.Trod enc Tryd.prog w base (fun _ => true) true 36 (.slice a len cap) d p) : ∃ l, IsRecs w a len cap l := by
  obtain ⟨fuel, hf⟩ := h
  rcases Go.Deep.open_slice Tryd.underlying36 hf with ⟨hcs, _⟩ | ⟨x, l, c, m, n, D, Pl, hcs, hb, hl, hm, hmm, _, hx⟩
  · simp [Value.cells] at hcs
    obtain ⟨rfl, rfl, rfl⟩ := hcs
    exact ⟨[], rfl, .inl ⟨rfl, rfl, rfl⟩⟩
  · simp [Value.cells] at hcs
    obtain ⟨rfl, rfl, rfl⟩ := hcs
    simp only [if_true] at hmm
    subst hmm
    unfold maxLen at hm
    have each : ∀ i, i < len → ∃ R : Rc, R.ok ∧ ∃ u, TR w u R.ch ∧ ∀ j v, (R.cells u)[j]? = some v → w.cell? (x.add (i * 7 + j)) = some v := by
      intro i hi
      obtain ⟨cs', h1, h2⟩ := hx i (by omega)
      rw [Tryd.cellsN] at h1
      obtain ⟨_, hlen, hcell⟩ := World.cells?_some h1
      obtain ⟨r, u, r1, r2, r3⟩ := open_rec hlen h2
      refine ⟨r, r1, u, r2, fun j v hv => ?_⟩
      have hj : j < 7 := by have := (List.getElem?_eq_some_iff.1 hv).1; simpa [Rc.cells] using this
      have hc := hcell j hj
      rw [Go.Deep.add_add] at hc
      rw [hc, r3]
      exact hv
    obtain ⟨A, hA⟩ := Go.Deep.choose_lt each
    have hg : ∀ i, i < len → ((List.range len).map A).getD i default = A i := fun i hi => by
      rw [List.getD_eq_getElem?_getD, List.getElem?_map, List.getElem?_range hi]; rfl
    refine ⟨(List.range len).map A, by simp, .inr ⟨x, rfl, hl, hm, fun i hi => ?_⟩⟩
    rw [hg i hi]
    exact hA i hi
end Go.Proofs.YtkgjepgaekbniaaDoor
