/- Contract of node.Target. A set of texts in memory; path's Compare and Parent over lists. -/
import Derived.Test.YtmjfcneofpddiaaDoorQPthN
import Derived.Test.YtmjfcneofpddiaaDoorQShelf
import Derived.Maps.OwnSet
namespace Go.Proofs.YtmjfcneofpddiaaDoor
open Go.RowKit
set_option linter.unusedVariables false
set_option linter.unusedSimpArgs false

def targN (g : List UInt8) : Bool := decide (g ≠ []) && decide (g.length ≤ 200) && decide ((0 : UInt8) ∉ g)
theorem zero_index : ∀ l : List UInt8, (Lib.indexByte l 0 < 0) ↔ (0 : UInt8) ∉ l
  | [] => by simp [Lib.indexByte]
  | b :: t => by
    have := Lib.indexByte_ge t 0
    have ih := zero_index t
    rw [Lib.indexByte]
    by_cases h : b = 0
    · subst h; simp
    · have h0 : ¬ (0 : UInt8) = b := fun e => h e.symm
      simp [h, h0]
      by_cases hm : (0 : UInt8) ∈ t
      · have := (not_congr ih).2 (by simpa using hm)
        simp [hm]
        split <;> omega
      · have := ih.2 hm
        simp [hm]
        split <;> omega
set_option maxRecDepth 100000 in
set_option maxHeartbeats 400000 in
theorem target_any (g : List UInt8) (w : World) (hg : g.length ≤ 9223372036854775807) : Calls Tryd.prog 50 #[.string ⟨g.toArray⟩] w fun e w' => e = .returned (.bool (targN g)) ∧ w' = w := by
  unfold targN
  by_cases h1 : g = []
  · subst h1
    go_enter Tryd.func50, Tryd.ntmps50
    go_wp2
    go_ret
    simp
  have he : g.isEmpty = false := by simpa using h1
  have he2 : (g == []) = false := by simpa using h1
  by_cases h2 : g.length ≤ 200
  · have h2i : (g.length : Int) ≤ 200 := by omega
    have HZ := zero_index g
    have HI : Hid (Calls _ _ _ _ _) := Tryd.strings_IndexByte ⟨g.toArray⟩ 0 w
    unfold Hid at HI
    go_enter Tryd.func50, Tryd.ntmps50
    go_wp2_with fail
    refine (HI : Calls _ _ _ _ _).mono ?_
    rintro e w1 ⟨rfl, rfl⟩
    simp only [show (0 : Int).toNat.toUInt8 = (0 : UInt8) from rfl]
    generalize hJ : Lib.indexByte g 0 = J at *
    clear hJ
    by_cases hj : J < 0
    · have hm := HZ.1 hj
      clear HZ
      go_wp2
      go_ret
      simp [h1, h2, hm]
    · have hm := (not_congr HZ).1 hj
      have hm2 : (0 : UInt8) ∈ g := by simpa using hm
      clear HZ hm
      go_wp2
      go_ret
      simp [hm2]
  · have h2i : ¬ (g.length : Int) ≤ 200 := by omega
    go_enter Tryd.func50, Tryd.ntmps50
    go_wp2
    go_ret
    simp [h2]
end Go.Proofs.YtmjfcneofpddiaaDoor
namespace Go.Proofs.YtmjfcneofpddiaaDoor
open Go.RowKit Go.Maps
set_option linter.unusedVariables false
set_option linter.unusedSimpArgs false

theorem keyT : Keyed Tryd.prog 9 := string_keyed Tryd.underlying9
theorem zeroU (w : World) : (zeroValue 79).run Tryd.prog w = .ok (.agg #[]) w := by kernel_rfl
/-- A set of texts in block B. -/
def SM (w : World) (B n : Nat) (fs : List (List UInt8)) : Prop :=
  ∃ D : DataW Unit, w.ownsMap Tryd.prog 9 unitElem B n D ∧ ∀ x : List UInt8, Maps.has D (.string x) = decide (x ∈ fs)
theorem SM.below {w w' : World} {B n : Nat} {fs : List (List UInt8)} (h : SM w B n fs) (hb : Below w.heap.size w w') : SM w' B n fs := by
  obtain ⟨D, h1, h2⟩ := h
  refine ⟨D, ?_, h2⟩
  have hlt := h1.lt
  obtain ⟨es, clock, hbk, F⟩ := h1
  exact ⟨es, clock, (hb.block _ hlt).trans hbk, F⟩
theorem keyB (x : List UInt8) (hx : x.length ≤ 9223372036854775807) : keyOf Tryd.prog 9 (.string (mkB x)) = some (.string x) :=
  WideMaps.keyOf_string_mk Tryd.underlying9 (by rw [mkB_size]; unfold maxLen; omega)
theorem SM.put {w : World} {B n : Nat} {fs : List (List UInt8)} (h : SM w B n fs) (hn : n < maxLen) (x : List UInt8) (hx : x.length ≤ 9223372036854775807) :
    ∃ w', (Instr.mapUpdate 80 (.map (some B)) (.string (mkB x)) (.agg #[])).run Tryd.prog w = .ok () w' ∧ SM w' B (n + 1) (x :: fs) ∧ w.grownBy w' (some B) := by
  obtain ⟨D, h1, h2⟩ := h
  obtain ⟨w', r1, r2, r3⟩ := h1.update keyT Tryd.underlying80 hn (keyB x hx) (unitElem_mk (H := Unit))
  refine ⟨w', r1, ⟨_, r2, fun y => ?_⟩, r3⟩
  by_cases e : y = x
  · subst e
    rw [has_put_same h1.isMap (show WideAt.IsKeyLit (.string y) from trivial)]
    simp
  · rw [has_put_other (fun h => e (by injection h))]
    rw [h2 y]
    simp [e]
theorem SM.look {w : World} {B n : Nat} {fs : List (List UInt8)} (h : SM w B n fs) (x : List UInt8) (hx : x.length ≤ 9223372036854775807) :
    (Instr.lookup 80 (.map (some B)) (.string (mkB x)) true).run Tryd.prog w = .ok (.tuple #[.agg #[], .bool (decide (x ∈ fs))]) w := by
  obtain ⟨D, h1, h2⟩ := h
  obtain ⟨v, ps, hrun, hv⟩ := h1.look_ok keyT Tryd.underlying80 (zeroU w) (unitElem_mk (H := Unit)) (keyB x hx)
  obtain ⟨rfl, _⟩ := unitElem_inv hv
  rw [h2 x] at hrun
  exact hrun
theorem SM.new (w : World) : SM (w.alloc (.map #[] 0)) w.heap.size 0 [] :=
  ⟨.map [], World.ownsMap_made w _ _ _, fun x => by simp [Maps.has]⟩
theorem pcmpB_any (a b : List UInt8) (w : World) (ha : a.length ≤ 1000000) (hb : b.length ≤ 1000000) (hm : MaxV w) :
    Calls Tryd.prog 54 #[.string (mkB a), .string (mkB b)] w fun e w' => e = .returned (.int .i64 (pcm a b)) ∧ ∃ n, w' = w.drewN n := pcmp_any a b w ha hb hm
theorem parentB_any (a : List UInt8) (w : World) (ha : a.length ≤ 1000000) :
    Calls Tryd.prog 40 #[.string (mkB a)] w fun e w' => e = .returned (.string (mkB (parL a))) ∧ Below w.heap.size w w' := parent_any (mkB a) w (by rw [mkB_size]; exact ha)
end Go.Proofs.YtmjfcneofpddiaaDoor
