/- A manifest that comes in by value: what a walk is told of it. -/
import Derived.Test.YtecpapifkbfblaaDoorManK
import Derived.Deep.Slices
import Derived.ProofKit
import Derived.OpenShut
import Derived.SliceStrings
import Derived.ChangeOld
namespace Go.Proofs.YtecpapifkbfblaaDoor
open Go.ChangeShapes Go.WideShapes Go.ChangeAt Go.RowKit
set_option linter.unusedVariables false

theorem Tryd.cellsMf : Tryd.prog.cellsOf 37 = 5 := by kernel_rfl
theorem mkB_of (s : ByteArray) : s = mkB s.data.toList := by cases s; rfl
/-- v is this manifest. -/
def IsMf (w : World) (v : Value) (m : Mf) : Prop := ∃ u, v = mfV m u ∧ TX w u m.ch ∧ (∀ n c, u = .slice none n c → c = 0) ∧ m.fit
set_option maxRecDepth 100000 in
theorem open_man {H : Type} {enc : TypeId × Value → H} {W : World} {b0 : Nat} {r : Reach} {v : Value} {d : DataW H} {p : List MemPlace}
    (hval : Value.okWide Tryd.prog W r b0 37 v) (h : DataW.Trod enc Tryd.prog W 0 (fun _ => true) true 37 v d p) :
    ∃ m, IsMf W v m := by
  obtain ⟨cs, rfl, hsz⟩ := okWide_struct Tryd.underlying37 hval
  rw [Tryd.cellsMf] at hsz
  obtain ⟨l⟩ := cs
  obtain ⟨fuel, h2⟩ := h
  obtain ⟨xs, k, hk, hxy, _, hxl, hf⟩ := DataW.trod_struct Tryd.underlying37 h2
  match l, hsz with
  | [v0, v1, v2, v3, v4], _ =>
    have hxl' : xs.length = 5 := hxl
    simp only [Value.cells] at hf
    have g0 : DataW.trod enc Tryd.prog W 0 (fun _ => true) true k 3 (([v0, v1, v2, v3, v4].drop 0).take (Tryd.prog.cellsOf 3)) = xs[0]? := hf 0 _ rfl
    have g1 : DataW.trod enc Tryd.prog W 0 (fun _ => true) true k 9 (([v0, v1, v2, v3, v4].drop 1).take (Tryd.prog.cellsOf 9)) = xs[1]? := hf 1 _ rfl
    have g2 : DataW.trod enc Tryd.prog W 0 (fun _ => true) true k 9 (([v0, v1, v2, v3, v4].drop 2).take (Tryd.prog.cellsOf 9)) = xs[2]? := hf 2 _ rfl
    have g3 : DataW.trod enc Tryd.prog W 0 (fun _ => true) true k 3 (([v0, v1, v2, v3, v4].drop 3).take (Tryd.prog.cellsOf 3)) = xs[3]? := hf 3 _ rfl
    have g4 : DataW.trod enc Tryd.prog W 0 (fun _ => true) true k 35 (([v0, v1, v2, v3, v4].drop 4).take (Tryd.prog.cellsOf 35)) = xs[4]? := hf 4 _ rfl
    rw [List.getElem?_eq_getElem (by omega), show Tryd.prog.cellsOf 3 = 1 by kernel_rfl] at g0 g3
    rw [List.getElem?_eq_getElem (by omega), show Tryd.prog.cellsOf 9 = 1 by kernel_rfl] at g1 g2
    rw [List.getElem?_eq_getElem (by omega), show Tryd.prog.cellsOf 35 = 1 by kernel_rfl] at g4
    simp only [List.drop_zero, List.drop_succ_cons, List.take_succ_cons, List.take_zero] at g0 g1 g2 g3 g4
    obtain ⟨n0, e0, _, w0⟩ := DataW.trod_int Tryd.underlying3 g0
    obtain ⟨s1, e1, _, w1⟩ := DataW.trod_string Tryd.underlying9 g1
    obtain ⟨s2, e2, _, w2⟩ := DataW.trod_string Tryd.underlying9 g2
    obtain ⟨n3, e3, _, w3⟩ := DataW.trod_int Tryd.underlying3 g3
    have b0 := bounds_i64 w0
    have b3 := bounds_i64 w3
    unfold maxLen at w1 w2
    simp only [List.cons.injEq, and_true] at e0 e1 e2 e3
    subst e0 e1 e2 e3
    have z1 : s1.data.toList.length ≤ 9223372036854775807 := by
      have : s1.data.toList.length = s1.size := by simp
      omega
    have z2 : s2.data.toList.length ≤ 9223372036854775807 := by
      have : s2.data.toList.length = s2.size := by simp
      omega
    rcases open_strings Tryd.underlying35 Tryd.underlying9 (by kernel_rfl) g4 with ⟨hcs, _⟩ | ⟨x, l, c, ss, hcs, _, hl, hm, hz, _, hcell, hwz⟩
    · simp only [List.cons.injEq, and_true] at hcs
      subst hcs
      refine ⟨⟨n0, s1.data.toList, s2.data.toList, n3, []⟩, .slice none 0 0, ?_, ⟨none, 0, rfl, by simp, fun hne => absurd rfl hne⟩, fun n c e => by cases e; rfl, ⟨b0, z1, z2, b3, by simp, by simp⟩⟩
      simp only [mfV, ← mkB_of]
    · simp only [List.cons.injEq, and_true] at hcs
      subst hcs
      simp only [if_true] at hz
      unfold maxLen at hm
      have hsl : ((ss.take l).map fun s => s.data.toList).length = l := by rw [List.length_map, List.length_take]; omega
      refine ⟨⟨n0, s1.data.toList, s2.data.toList, n3, (ss.take l).map (fun s => s.data.toList)⟩, .slice (some x) l c, ?_, ⟨some x, c, by rw [hsl], by rw [hsl]; exact hl, fun hne => ?_⟩, (fun n c e => (by cases e)), ⟨b0, z1, z2, b3, by show ((ss.take l).map fun s => s.data.toList).length ≤ _; omega, ?_⟩⟩
      · simp only [mfV, ← mkB_of]
      · have h0 : 0 < l := by
          rcases Nat.eq_zero_or_pos l with e | e
          · subst e; simp at hne
          · exact e
        obtain ⟨b, o, s⟩ := x
        have hs : s = none := by
          have c0 := hcell 0 (by omega)
          cases s with
          | none => rfl
          | some s => unfold World.cell? at c0; simp [Addr.add] at c0; split at c0 <;> simp at c0
        subst hs
        have hcc : ∀ i, i < l → W.cell? ⟨b, o + i, none⟩ = some (.string (mkB (((ss.take l).map (fun s => s.data.toList)).getD i []))) := fun i hi => by
          have := hcell i (by omega)
          rw [Addr.add_mid] at this
          rw [this]
          congr 2
          rw [List.getD_eq_getElem?_getD, List.getD_eq_getElem?_getD, List.getElem?_map, List.getElem?_take, if_pos hi, List.getElem?_eq_getElem (by omega)]
          exact mkB_of _
        exact ⟨b, o, rfl, World.block_lt_of_cell? _ _ (hcc 0 h0), fun i hi => hcc i (by rw [hsl] at hi; exact hi)⟩
      · intro y hy
        obtain ⟨s, hs, rfl⟩ := List.mem_map.1 hy
        have := hwz s (List.mem_of_mem_take hs)
        unfold maxLen at this
        have : s.data.toList.length = s.size := by simp
        omega
end Go.Proofs.YtecpapifkbfblaaDoor
