/- Contracts: strings.HasPrefix over texts. -/
import Derived.Test.YtmjfcneofpddiaaDoorQWkJ
namespace Go.Proofs.YtmjfcneofpddiaaDoor
open Go.RowKit Go.Maps
set_option linter.unusedVariables false
set_option linter.unusedSimpArgs false

/-- The text a begins with the text b. -/
def pfx (a b : List UInt8) : Prop := a.take b.length = b
instance (a b : List UInt8) : Decidable (pfx a b) := inferInstanceAs (Decidable (_ = _))
theorem pfx_len {a b : List UInt8} (h : pfx a b) : b.length ≤ a.length := by
  have := congrArg List.length h
  rw [List.length_take] at this; omega
theorem extT (l : List UInt8) (n : Nat) : (mkB l).extract 0 n = mkB (l.take n) := by
  apply mkB_inj
  rw [ByteArray.data_extract, Array.toList_extract]
  show (l.drop 0).take (n - 0) = _
  simp
set_option maxRecDepth 100000 in
set_option maxHeartbeats 400000 in
theorem lpfx_any (a b : List UInt8) (w : World) (ha : a.length ≤ 9223372036854775807) (hb : b.length ≤ 9223372036854775807) :
    Calls Tryd.prog 44 #[.string (mkB a), .string (mkB b)] w fun e w' => e = .returned (.bool (decide (pfx a b))) ∧ w' = w := by
  have za := mkB_size a
  have zb := mkB_size b
  by_cases hlt : b.length ≤ a.length
  · have hge : (b.length : Int) ≤ (a.length : Int) := by omega
    have hx : (mkB a).extract 0 (mkB b).size = mkB (a.take b.length) := by rw [zb]; exact extT a _
    have hq : ((mkB (a.take b.length)).toList == (mkB b).toList) = decide (pfx a b) := mkB_beq _ _
    obtain ⟨r, hr⟩ : ∃ r, r = decide (pfx a b) := ⟨_, rfl⟩
    rw [← hr] at hq ⊢
    clear hr
    generalize mkB (a.take b.length) = X at *
    generalize mkB a = A at *
    generalize mkB b = B at *
    generalize a.length = n at *
    generalize b.length = m at *
    subst za zb
    go_enter Tryd.func44, Tryd.ntmps44
    go_wp2
    go_ret
    exact ⟨rfl, rfl⟩
  · have hge : ¬ (b.length : Int) ≤ (a.length : Int) := by omega
    have hr : decide (pfx a b) = false := decide_eq_false fun h => hlt (pfx_len h)
    rw [hr]
    clear hr
    generalize mkB a = A at *
    generalize mkB b = B at *
    generalize a.length = n at *
    generalize b.length = m at *
    subst za zb
    go_enter Tryd.func44, Tryd.ntmps44
    go_wp2
    go_ret
    exact ⟨rfl, rfl⟩
set_option maxRecDepth 100000 in
set_option maxHeartbeats 400000 in
theorem pfx_any (a b : List UInt8) (w : World) (ha : a.length ≤ 9223372036854775807) (hb : b.length ≤ 9223372036854775807) :
    Calls Tryd.prog 29 #[.string (mkB a), .string (mkB b)] w fun e w' => e = .returned (.bool (decide (pfx a b))) ∧ w' = w := by
  have HC : Hid (Calls _ _ _ _ _) := lpfx_any a b w ha hb
  unfold Hid at HC
  clear ha hb
  go_enter Tryd.func29, Tryd.ntmps29
  go_wp2_with fail
  refine (HC : Calls _ _ _ _ _).mono ?_
  rintro e w1 ⟨rfl, rfl⟩
  go_wp2
  go_ret
  exact ⟨rfl, rfl⟩
end Go.Proofs.YtmjfcneofpddiaaDoor
