/- A set of texts in memory; path's Compare and Parent over lists. -/
import Derived.Test.YtkgjepgaekbniaaDoorQPthN
import Derived.Maps.OwnSet
namespace Go.Proofs.YtkgjepgaekbniaaDoor
open Go.RowKit Go.Maps
set_option linter.unusedVariables false
set_option linter.unusedSimpArgs false

theorem keyT : Keyed Tryd.prog 9 := string_keyed Tryd.underlying9
theorem zeroU (w : World) : (zeroValue 68).run Tryd.prog w = .ok (.agg #[]) w := by kernel_rfl
/-- A set of texts in block B. -/
def SM (w : World) (B n : Nat) (fs : List (List UInt8)) : Prop :=
  ∃ D : DataW Unit, w.ownsMap Tryd.prog 9 unitElem B n D ∧ ∀ x : List UInt8, Maps.has D (.string x) = decide (x ∈ fs)
theorem SM.below {w w' : World} {B n : Nat} {fs : List (List UInt8)} (h : SM w B n fs) (hb : Below w.heap.size w w') : SM w' B n fs := by
  obtain ⟨D, h1, h2⟩ := h
  refine ⟨D, ?_, h2⟩
  have hlt := h1.lt
  obtain ⟨es, clock, hbk, F⟩ := h1
  exact ⟨es, clock, (hb.block _ hlt).trans hbk, F⟩
theorem keyB (x : List UInt8) (hx : x.length ≤ 9223372036854775807) : keyOf Tryd.prog 9 (.string (mkB x)) = some (.string x) :=
  WideMaps.keyOf_string_mk Tryd.underlying9 (by rw [mkB_size]; unfold maxLen; omega)
theorem SM.put {w : World} {B n : Nat} {fs : List (List UInt8)} (h : SM w B n fs) (hn : n < maxLen) (x : List UInt8) (hx : x.length ≤ 9223372036854775807) :
    ∃ w', (Instr.mapUpdate 69 (.map (some B)) (.string (mkB x)) (.agg #[])).run Tryd.prog w = .ok () w' ∧ SM w' B (n + 1) (x :: fs) ∧ w.grownBy w' (some B) := by
  obtain ⟨D, h1, h2⟩ := h
  obtain ⟨w', r1, r2, r3⟩ := h1.update keyT Tryd.underlying69 hn (keyB x hx) (unitElem_mk (H := Unit))
  refine ⟨w', r1, ⟨_, r2, fun y => ?_⟩, r3⟩
  by_cases e : y = x
  · subst e
    rw [has_put_same h1.isMap (show WideAt.IsKeyLit (.string y) from trivial)]
    simp
  · rw [has_put_other (fun h => e (by injection h))]
    rw [h2 y]
    simp [e]
theorem SM.look {w : World} {B n : Nat} {fs : List (List UInt8)} (h : SM w B n fs) (x : List UInt8) (hx : x.length ≤ 9223372036854775807) :
    (Instr.lookup 69 (.map (some B)) (.string (mkB x)) true).run Tryd.prog w = .ok (.tuple #[.agg #[], .bool (decide (x ∈ fs))]) w := by
  obtain ⟨D, h1, h2⟩ := h
  obtain ⟨v, ps, hrun, hv⟩ := h1.look_ok keyT Tryd.underlying69 (zeroU w) (unitElem_mk (H := Unit)) (keyB x hx)
  obtain ⟨rfl, _⟩ := unitElem_inv hv
  rw [h2 x] at hrun
  exact hrun
theorem SM.new (w : World) : SM (w.alloc (.map #[] 0)) w.heap.size 0 [] :=
  ⟨.map [], World.ownsMap_made w _ _ _, fun x => by simp [Maps.has]⟩
theorem pcmpB_any (a b : List UInt8) (w : World) (ha : a.length ≤ 1000000) (hb : b.length ≤ 1000000) (hm : MaxV w) :
    Calls Tryd.prog 28 #[.string (mkB a), .string (mkB b)] w fun e w' => e = .returned (.int .i64 (pcm a b)) ∧ ∃ n, w' = w.drewN n := pcmp_any a b w ha hb hm
theorem parentB_any (a : List UInt8) (w : World) (ha : a.length ≤ 1000000) :
    Calls Tryd.prog 29 #[.string (mkB a)] w fun e w' => e = .returned (.string (mkB (parL a))) ∧ Below w.heap.size w w' := parent_any (mkB a) w (by rw [mkB_size]; exact ha)
end Go.Proofs.YtkgjepgaekbniaaDoor
