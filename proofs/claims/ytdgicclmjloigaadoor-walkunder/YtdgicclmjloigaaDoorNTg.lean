/- Contract of node.Target. -/
import Derived.Test.YtdgicclmjloigaaDoorPthN
import Derived.Test.YtdgicclmjloigaaDoorShelf
namespace Go.Proofs.YtdgicclmjloigaaDoor
open Go.RowKit
set_option linter.unusedVariables false
set_option linter.unusedSimpArgs false

def targN (g : List UInt8) : Bool := decide (g ≠ []) && decide (g.length ≤ 200) && decide ((0 : UInt8) ∉ g)
theorem zero_index : ∀ l : List UInt8, (Lib.indexByte l 0 < 0) ↔ (0 : UInt8) ∉ l
  | [] => by simp [Lib.indexByte]
  | b :: t => by
    have := Lib.indexByte_ge t 0
    have ih := zero_index t
    rw [Lib.indexByte]
    by_cases h : b = 0
    · subst h; simp
    · have h0 : ¬ (0 : UInt8) = b := fun e => h e.symm
      simp [h, h0]
      by_cases hm : (0 : UInt8) ∈ t
      · have := (not_congr ih).2 (by simpa using hm)
        simp [hm]
        split <;> omega
      · have := ih.2 hm
        simp [hm]
        split <;> omega
set_option maxRecDepth 100000 in
set_option maxHeartbeats 400000 in
theorem target_any (g : List UInt8) (w : World) (hg : g.length ≤ 9223372036854775807) : Calls Tryd.prog 53 #[.string ⟨g.toArray⟩] w fun e w' => e = .returned (.bool (targN g)) ∧ w' = w := by
  unfold targN
  by_cases h1 : g = []
  · subst h1
    go_enter Tryd.func53, Tryd.ntmps53
    go_wp2
    go_ret
    simp
  have he : g.isEmpty = false := by simpa using h1
  have he2 : (g == []) = false := by simpa using h1
  by_cases h2 : g.length ≤ 200
  · have h2i : (g.length : Int) ≤ 200 := by omega
    have HZ := zero_index g
    have HI : Hid (Calls _ _ _ _ _) := Tryd.strings_IndexByte ⟨g.toArray⟩ 0 w
    unfold Hid at HI
    go_enter Tryd.func53, Tryd.ntmps53
    go_wp2_with fail
    refine (HI : Calls _ _ _ _ _).mono ?_
    rintro e w1 ⟨rfl, rfl⟩
    simp only [show (0 : Int).toNat.toUInt8 = (0 : UInt8) from rfl]
    generalize hJ : Lib.indexByte g 0 = J at *
    clear hJ
    by_cases hj : J < 0
    · have hm := HZ.1 hj
      clear HZ
      go_wp2
      go_ret
      simp [h1, h2, hm]
    · have hm := (not_congr HZ).1 hj
      have hm2 : (0 : UInt8) ∈ g := by simpa using hm
      clear HZ hm
      go_wp2
      go_ret
      simp [hm2]
  · have h2i : ¬ (g.length : Int) ≤ 200 := by omega
    go_enter Tryd.func53, Tryd.ntmps53
    go_wp2
    go_ret
    simp [h2]
end Go.Proofs.YtdgicclmjloigaaDoor
