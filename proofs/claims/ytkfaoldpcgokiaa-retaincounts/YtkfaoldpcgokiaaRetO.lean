/- A policy and snapshots that come in: what a walk is told of them. -/
import Derived.Test.YtkfaoldpcgokiaaRetF
import Derived.Deep.Slices
import Derived.ProofKit
import Derived.OpenShut
import Derived.SliceStrings
import Derived.ChangeOld
import Derived.SizedLaws
namespace Go.Proofs.Ytkfaoldpcgokiaa
open Go.ChangeShapes Go.WideShapes Go.ChangeAt Go.RowKit
set_option linter.unusedVariables false

theorem Try.cellsPol : Try.prog.cellsOf 24 = 5 := by kernel_rfl
theorem mkB_of (s : ByteArray) : s = mkB s.data.toList := by cases s; rfl
/-- A policy that came in. -/
structure PolS (w : World) (p : Pol) (tv : Value) : Prop where
  h : PolIn w w.heap.size p tv
  n : p.tg.length ≤ 8796093021952
set_option maxRecDepth 100000 in
theorem open_pol {H : Type} {enc : TypeId × Value → H} {W : World} {b0 : Nat} {r : Reach} {v : Value} {d : DataW H} {p : List MemPlace}
    (hval : Value.okWide Try.prog W r b0 24 v) (h : DataW.Trod enc Try.prog W 0 (fun _ => true) true 24 v d p) (hw : ∀ n ∈ d.weights Try.prog 24, n ≤ reachBytes) :
    ∃ q tv, v = polV q tv ∧ PolS W q tv := by
  obtain ⟨cs, rfl, hsz⟩ := okWide_struct Try.underlying24 hval
  rw [Try.cellsPol] at hsz
  obtain ⟨l⟩ := cs
  obtain ⟨fuel, h2⟩ := h
  obtain ⟨xs, k, hk, hxy, hx1, hxl, hf⟩ := DataW.trod_struct Try.underlying24 h2
  match l, hsz with
  | [v0, v1, v2, v3, v4], _ =>
    have hxl' : xs.length = 5 := hxl
    simp only [Value.cells] at hf
    have g0 : DataW.trod enc Try.prog W 0 (fun _ => true) true k 3 (([v0, v1, v2, v3, v4].drop 0).take (Try.prog.cellsOf 3)) = xs[0]? := hf 0 _ rfl
    have g1 : DataW.trod enc Try.prog W 0 (fun _ => true) true k 3 (([v0, v1, v2, v3, v4].drop 1).take (Try.prog.cellsOf 3)) = xs[1]? := hf 1 _ rfl
    have g2 : DataW.trod enc Try.prog W 0 (fun _ => true) true k 3 (([v0, v1, v2, v3, v4].drop 2).take (Try.prog.cellsOf 3)) = xs[2]? := hf 2 _ rfl
    have g3 : DataW.trod enc Try.prog W 0 (fun _ => true) true k 3 (([v0, v1, v2, v3, v4].drop 3).take (Try.prog.cellsOf 3)) = xs[3]? := hf 3 _ rfl
    have g4 : DataW.trod enc Try.prog W 0 (fun _ => true) true k 22 (([v0, v1, v2, v3, v4].drop 4).take (Try.prog.cellsOf 22)) = xs[4]? := hf 4 _ rfl
    rw [List.getElem?_eq_getElem (by omega), show Try.prog.cellsOf 3 = 1 by kernel_rfl] at g0 g1 g2 g3
    rw [List.getElem?_eq_getElem (by omega), show Try.prog.cellsOf 22 = 1 by kernel_rfl] at g4
    simp only [List.drop_zero, List.drop_succ_cons, List.take_succ_cons, List.take_zero] at g0 g1 g2 g3 g4
    obtain ⟨n0, e0, _, w0⟩ := DataW.trod_int Try.underlying3 g0
    obtain ⟨n1, e1, _, w1⟩ := DataW.trod_int Try.underlying3 g1
    obtain ⟨n2, e2, _, w2⟩ := DataW.trod_int Try.underlying3 g2
    obtain ⟨n3, e3, _, w3⟩ := DataW.trod_int Try.underlying3 g3
    have b0 := bounds_i64 w0
    have b1 := bounds_i64 w1
    have b2 := bounds_i64 w2
    have b3 := bounds_i64 w3
    simp only [List.cons.injEq, and_true] at e0 e1 e2 e3
    subst e0 e1 e2 e3
    rcases open_strings Try.underlying22 Try.underlying9 (by kernel_rfl) g4 with ⟨hcs, _⟩ | ⟨x, l, c, ss, hcs, _, hl, hm, hz, hxx, hcell, hwz⟩
    · simp only [List.cons.injEq, and_true] at hcs
      subst hcs
      exact ⟨⟨n0, n1, n2, n3, []⟩, .slice none 0 0, rfl, ⟨⟨b0, b1, b2, b3, by simp, by simp⟩, TV.nil _ _⟩, by simp⟩
    · simp only [List.cons.injEq, and_true] at hcs
      subst hcs
      simp only [if_true] at hz
      unfold maxLen at hm
      have hsl : ((ss.take l).map fun s => s.data.toList).length = l := by rw [List.length_map, List.length_take]; omega
      have hl43 : l ≤ 8796093021952 := by
        have hwt : (l + (c - l)) * 16 ≤ reachBytes := by
          refine hw _ ?_
          have h4 : (xs.map (·.1))[4]? = some (xs[4]'(by omega)).1 := by rw [List.getElem?_map, List.getElem?_eq_getElem (by omega)]; rfl
          have hd : d = .agg (xs.map (·.1)) := congrArg Prod.fst hxy
          rw [hd]
          simp only [DataW.weights, Try.underlying24]
          refine DataW.weights_mem_each (j := 4) (t := 22) rfl h4 _ ?_
          rw [hxx]
          simp only [DataW.weights, Try.underlying22]
          rw [show Try.prog.bytesOf 9 = 16 by kernel_rfl]
          refine List.mem_cons.2 (.inl ?_)
          congr 1
          unfold strs
          rw [List.length_map, List.length_map, List.length_take, List.length_drop]; omega
        unfold reachBytes at hwt
        omega
      refine ⟨⟨n0, n1, n2, n3, (ss.take l).map (fun s => s.data.toList)⟩, .slice (some x) l c, rfl, ⟨⟨b0, b1, b2, b3, by show ((ss.take l).map fun s => s.data.toList).length ≤ _; omega, ?_⟩, ⟨some x, c, by rw [hsl], by rw [hsl]; exact hl, (fun e => (by cases e)), fun hne => ?_⟩⟩, by show ((ss.take l).map fun s => s.data.toList).length ≤ _; omega⟩
      · intro y hy
        obtain ⟨s, hs, rfl⟩ := List.mem_map.1 hy
        have := hwz s (List.mem_of_mem_take hs)
        unfold maxLen at this
        have : s.data.toList.length = s.size := by simp
        omega
      · have h0 : 0 < l := by
          rcases Nat.eq_zero_or_pos l with e | e
          · subst e; simp at hne
          · exact e
        obtain ⟨b, o, s⟩ := x
        have hs : s = none := by
          have c0 := hcell 0 (by omega)
          cases s with
          | none => rfl
          | some s => unfold World.cell? at c0; simp [Addr.add] at c0; split at c0 <;> simp at c0
        subst hs
        have hcc : ∀ i, i < l → W.cell? ⟨b, o + i, none⟩ = some (.string (mkB (((ss.take l).map (fun s => s.data.toList)).getD i []))) := fun i hi => by
          have := hcell i (by omega)
          rw [Addr.add_mid] at this
          rw [this]
          congr 2
          rw [List.getD_eq_getElem?_getD, List.getD_eq_getElem?_getD, List.getElem?_map, List.getElem?_take, if_pos hi, List.getElem?_eq_getElem (by omega)]
          exact mkB_of _
        have hbl := World.block_lt_of_cell? _ _ (hcc 0 h0)
        exact ⟨b, o, rfl, hbl, hbl, fun i hi => hcc i (by rw [hsl] at hi; exact hi)⟩
def IsSns (w : World) (a : Option Addr) (len cap : Nat) (l : List Sn) : Prop := l.length = len ∧ len ≤ 9223372036854775807 ∧ (∀ x ∈ l, x.ok) ∧ SV w w.heap.size (.slice a len cap) l
theorem Try.cellsSn : Try.prog.cellsOf 39 = 3 := by kernel_rfl
set_option maxRecDepth 100000 in
theorem open_snap {H : Type} {enc : TypeId × Value → H} {w : World} {base fuel : Nat} {cs : List Value} {y : DataW H × List MemPlace}
    (hlen : cs.length = 3) (h2 : DataW.trod enc Try.prog w base (fun _ => true) true fuel 39 cs = some y) : ∃ r : Sn, r.ok ∧ cs = snC r := by
  obtain ⟨xs, k, hk, hxy, _, hxl, hf⟩ := DataW.trod_struct Try.underlying39 h2
  match cs, hlen with
  | [v0, v1, v2], _ =>
    have hxl' : xs.length = 3 := hxl
    have g0 : DataW.trod enc Try.prog w base (fun _ => true) true k 9 (([v0, v1, v2].drop 0).take (Try.prog.cellsOf 9)) = xs[0]? := hf 0 _ rfl
    have g1 : DataW.trod enc Try.prog w base (fun _ => true) true k 3 (([v0, v1, v2].drop 1).take (Try.prog.cellsOf 3)) = xs[1]? := hf 1 _ rfl
    have g2 : DataW.trod enc Try.prog w base (fun _ => true) true k 9 (([v0, v1, v2].drop 2).take (Try.prog.cellsOf 9)) = xs[2]? := hf 2 _ rfl
    rw [List.getElem?_eq_getElem (by omega), show Try.prog.cellsOf 3 = 1 by kernel_rfl] at g1
    rw [List.getElem?_eq_getElem (by omega), show Try.prog.cellsOf 9 = 1 by kernel_rfl] at g0 g2
    simp only [List.drop_zero, List.drop_succ_cons, List.take_succ_cons, List.take_zero] at g0 g1 g2
    obtain ⟨s0, e0, _, w0⟩ := DataW.trod_string Try.underlying9 g0
    obtain ⟨n1, e1, _, w1⟩ := DataW.trod_int Try.underlying3 g1
    obtain ⟨s2, e2, _, w2⟩ := DataW.trod_string Try.underlying9 g2
    have b1 := bounds_i64 w1
    unfold maxLen at w0 w2
    simp only [List.cons.injEq, and_true] at e0 e1 e2
    subst e0 e1 e2
    have z0 : s0.data.toList.length = s0.size := by simp
    have z2 : s2.data.toList.length = s2.size := by simp
    refine ⟨⟨s0.data.toList, n1, s2.data.toList⟩, ⟨b1, by show s0.data.toList.length ≤ _; omega, by show s2.data.toList.length ≤ _; omega⟩, ?_⟩
    simp only [snC, ← mkB_of]
set_option maxRecDepth 100000 in
theorem open_snaps {H : Type} {enc : TypeId × Value → H} {w : World} {base : Nat} {a : Option Addr} {len cap : Nat} {d : DataW H} {p : List MemPlace}
    (h : DataW.Trod enc Try.prog w base (fun _ => true) true 25 (.slice a len cap) d p) : ∃ l, IsSns w a len cap l := by
  obtain ⟨fuel, hf⟩ := h
  rcases Go.Deep.open_slice Try.underlying25 hf with ⟨hcs, _⟩ | ⟨x, l, c, m, n, D, Pl, hcs, hb, hl, hm, hmm, _, hx⟩
  · simp [Value.cells] at hcs
    obtain ⟨rfl, rfl, rfl⟩ := hcs
    exact ⟨[], rfl, by omega, fun x hx => (by cases hx), SV.nil _ _⟩
  · simp [Value.cells] at hcs
    obtain ⟨rfl, rfl, rfl⟩ := hcs
    simp only [if_true] at hmm
    subst hmm
    unfold maxLen at hm
    have each : ∀ i, i < len → ∃ R : Sn, R.ok ∧ ∀ j v, (snC R)[j]? = some v → w.cell? (x.add (i * 3 + j)) = some v := by
      intro i hi
      obtain ⟨cs', h1, h2⟩ := hx i (by omega)
      rw [Try.cellsSn] at h1
      obtain ⟨_, hlen, hcell⟩ := World.cells?_some h1
      obtain ⟨r, r1, r3⟩ := open_snap hlen h2
      refine ⟨r, r1, fun j v hv => ?_⟩
      have hj : j < 3 := by have := (List.getElem?_eq_some_iff.1 hv).1; simpa [snC] using this
      have hc := hcell j hj
      rw [Go.Deep.add_add] at hc
      rw [hc, r3]
      exact hv
    obtain ⟨A, hA⟩ := Go.Deep.choose_lt each
    have hlen : ((List.range len).map A).length = len := by simp
    refine ⟨(List.range len).map A, hlen, by omega, fun y hy => ?_, some x, m, by rw [hlen], by rw [hlen]; exact hl, fun e => (by cases e), fun hne => ?_⟩
    · obtain ⟨i, hi, rfl⟩ := List.mem_map.1 hy
      exact (hA i (List.mem_range.1 hi)).1
    · have h0 : 0 < len := by
        rcases Nat.eq_zero_or_pos len with e | e
        · subst e; simp at hne
        · exact e
      obtain ⟨b, o, s⟩ := x
      have hs : s = none := by
        have c0 : w.cell? ⟨b, o, s⟩ = some _ := (hA 0 h0).2 0 _ rfl
        cases s with
        | none => rfl
        | some s => unfold World.cell? at c0; split at c0 <;> simp at c0
      subst hs
      have hcell : ∀ j u, (snsC ((List.range len).map A))[j]? = some u → w.cell? ⟨b, o + j, none⟩ = some u := fun j u hu => by
        have hj := (List.getElem?_eq_some_iff.1 hu).1
        rw [snsC_len, hlen] at hj
        have h5 : j / 3 < len := by omega
        have hx5 : ((List.range len).map A)[j / 3]? = some (A (j / 3)) := by rw [List.getElem?_map, List.getElem?_range h5]; rfl
        have e := snsC_at _ _ _ hx5 (j % 3) (by omega)
        rw [show j / 3 * 3 + j % 3 = j by omega, hu] at e
        have := (hA (j / 3) h5).2 (j % 3) u e.symm
        rw [show j / 3 * 3 + j % 3 = j by omega, Addr.add_mid] at this
        exact this
      have hbl := World.block_lt_of_cell? _ _ (hcell 0 _ (List.getElem?_eq_getElem (by rw [snsC_len, hlen]; omega)))
      exact ⟨b, o, rfl, hbl, hbl, hcell⟩
end Go.Proofs.Ytkfaoldpcgokiaa
