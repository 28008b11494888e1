/- A record (cellarerref12.N) that came in by value: what a walk is told of it. -/
import Derived.Test.YtkgjepgaekbniaaDoorQRecs
import Derived.ProofKit
import Derived.OpenShut
namespace Go.Proofs.YtkgjepgaekbniaaDoor
open Go.ChangeShapes Go.WideShapes Go.ChangeAt Go.RowKit
set_option linter.unusedVariables false

def IsRv (w : World) (v : Value) (r : Rc) : Prop := r.ok ∧ r.ch.length ≤ 8796093022208 ∧ ∃ u, v = .agg (r.cells u).toArray ∧ TR w u r.ch
theorem undN : Tryd.prog.underlying 24 = some (.struct (Tryd.prog.fieldsOf 24)) := by kernel_rfl
set_option maxRecDepth 100000 in
theorem rec_weight {H : Type} {enc : TypeId × Value → H} {w : World} {base fuel : Nat} {r : Rc} {u : Value} {y : DataW H × List MemPlace}
    (h2 : DataW.trod enc Tryd.prog w base (fun _ => true) true fuel 24 (r.cells u) = some y) (hu : TR w u r.ch) : r.ch.length = 0 ∨ ∃ m ∈ y.1.weights Tryd.prog 24, r.ch.length * 16 ≤ m := by
  obtain ⟨xs, k, hk, hxy, _, hxl, hf⟩ := DataW.trod_struct undN h2
  have hxl' : xs.length = 7 := hxl
  have g5 : DataW.trod enc Tryd.prog w base (fun _ => true) true k 22 (((r.cells u).drop 5).take (Tryd.prog.cellsOf 22)) = xs[5]? := hf 5 _ rfl
  rw [List.getElem?_eq_getElem (by omega), show Tryd.prog.cellsOf 22 = 1 by kernel_rfl] at g5
  have e5 : ((r.cells u).drop 5).take 1 = [u] := rfl
  rw [e5] at g5
  obtain ⟨a, c, hv, _, _⟩ := hu
  rcases open_strings Tryd.underlying22 Tryd.underlying9 (by kernel_rfl) g5 with ⟨hcs, _⟩ | ⟨x, l, c', ss, hcs, _, hl, hm, hz, hx, _, _⟩
  · left
    simp only [List.cons.injEq, and_true] at hcs
    rw [hv] at hcs
    injection hcs
  · right
    simp only [List.cons.injEq, and_true] at hcs
    rw [hv] at hcs
    injection hcs with _ hl2 _
    simp only [if_true] at hz
    have hx1 : (xs[5]'(by omega)).1 = .slice (strs (ss.take l)) (strs (ss.drop l)) := congrArg Prod.fst hx
    have hy1 : y.1 = .agg (xs.map (·.1)) := congrArg Prod.fst hxy
    have hw : y.1.weights Tryd.prog 24 = DataW.weightsEach Tryd.prog ((Tryd.prog.fieldsOf 24).toList.map (·.type)) (xs.map (·.1)) := by
      rw [hy1]; simp only [DataW.weights, undN]
    rw [hw]
    refine ⟨((strs (H := H) (ss.take l)).length + (strs (H := H) (ss.drop l)).length) * Tryd.prog.bytesOf 9, DataW.weights_mem_each (j := 5) (t := 22) (by kernel_rfl) (d := .slice (strs (ss.take l)) (strs (ss.drop l))) ?_ _ (by simp only [DataW.weights, Tryd.underlying22]; exact List.mem_cons_self), ?_⟩
    · rw [List.getElem?_map, List.getElem?_eq_getElem (by omega), Option.map_some, hx1]
    · have hb : Tryd.prog.bytesOf 9 = 16 := by kernel_rfl
      have h1 : (strs (H := H) (ss.take l)).length = (ss.take l).length := by simp [strs]
      have h3 : (strs (H := H) (ss.drop l)).length = (ss.drop l).length := by simp [strs]
      rw [hb, h1, h3, List.length_take, List.length_drop]
      omega
set_option maxRecDepth 100000 in
theorem open_recv {H : Type} {enc : TypeId × Value → H} {W : World} {b0 : Nat} {rr : Reach} {v : Value} {d : DataW H} {p : List MemPlace}
    (hval : Value.okWide Tryd.prog W rr b0 24 v) (h : DataW.Trod enc Tryd.prog W 0 (fun _ => true) true 24 v d p)
    (hw : ∀ n ∈ d.weights Tryd.prog 24, n ≤ reachBytes) : ∃ r, IsRv W v r := by
  obtain ⟨cs, rfl, hsz⟩ := okWide_struct undN hval
  rw [Tryd.cellsN] at hsz
  obtain ⟨l⟩ := cs
  obtain ⟨fuel, h2⟩ := h
  have h3 : DataW.trod enc Tryd.prog W 0 (fun _ => true) true fuel 24 l = some (d, p) := h2
  obtain ⟨r, u, r1, r2, r3⟩ := open_rec hsz h3
  have r4 : l = r.cells u := r3
  subst r4
  refine ⟨r, r1, ?_, u, rfl, r2⟩
  rcases rec_weight h3 r2 with h0 | ⟨m, hm, hle⟩
  · omega
  · have := hw m hm
    unfold reachBytes at this
    omega
end Go.Proofs.YtkgjepgaekbniaaDoor
