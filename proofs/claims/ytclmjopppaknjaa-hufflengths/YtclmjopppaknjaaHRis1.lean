/- The closure that huff.rising sorts by: the counts of two symbols compared. -/
import Derived.Test.YtclmjopppaknjaaHSym
namespace Go.Proofs.Ytclmjopppaknjaa
open Go.RowKit Go.Shelf Go.Lib Go.Sort
set_option linter.unusedVariables false
set_option linter.unusedSimpArgs false
variable {N : Nat} [Inhabited (Fin N)]

set_option maxRecDepth 100000 in
set_option maxHeartbeats 2000000 in
theorem ris1_any (x y bx g o len cap : Nat) (z1 z2 : Int) (w : World) (hbx : w.cell? ⟨bx, 0, none⟩ = some (.slice (some ⟨g, o, none⟩) len cap)) (hx : x < len) (hy : y < len)
    (h1 : w.cell? ⟨g, o + x, none⟩ = some (.int .i64 z1)) (h2 : w.cell? ⟨g, o + y, none⟩ = some (.int .i64 z2)) :
    Calls Try.prog 49 #[.int .i64 (x : Int), .int .i64 (y : Int), .pointer (some ⟨bx, 0, none⟩)] w fun e w' => e = .returned (.int .i64 (cmpZ z1 z2)) ∧ ∃ q, w' = w.drewN q := by
  have hc : ∀ k, Calls Try.prog 50 #[.int .i64 z1, .int .i64 z2] (w.drewN k) fun e w' => e = .returned (.int .i64 (cmpZ z1 z2)) ∧ ∃ q, w' = (w.drewN k).drewN q := fun k =>
    (compare_any z1 z2 (w.drewN k)).mono fun _ _ ⟨q1, q2⟩ => ⟨q1, 0, q2⟩
  have b1 : (x : Int) < (len : Int) := by omega
  have b2 : (y : Int) < (len : Int) := by omega
  have b3 : (0 : Int) ≤ (x : Int) := by omega
  have b4 : (0 : Int) ≤ (y : Int) := by omega
  generalize cmpZ z1 z2 = r at hc ⊢
  go_enter Try.func49, Try.ntmps49
  go_wp2_with fail
  go_quiet (refine Calls.quiet_of (hc _))
  go_wp2
  go_ret
  exact ⟨rfl, nq, rfl⟩
/-- The order of two symbols by their counts. -/
def cfZ (zs : List Int) (x y : Fin zs.length) : Int := cmpZ (zs.getD x.val 0) (zs.getD y.val 0)
theorem ltZ (zs : List Int) (x y : Fin zs.length) : ltOf (cfZ zs) x y = decide (zs.getD x.val 0 < zs.getD y.val 0) := by
  unfold ltOf cfZ
  generalize zs.getD x.val 0 = a
  generalize zs.getD y.val 0 = b
  unfold cmpZ
  by_cases h1 : a < b
  · rw [if_pos h1]; simp [h1]
  · rw [if_neg h1]
    by_cases h2 : b < a
    · rw [if_pos h2]; simp; omega
    · rw [if_neg h2]; simp; omega
theorem swoZ (zs : List Int) : SWO (ltOf (cfZ zs)) where
  irrefl x := by rw [ltZ]; exact decide_eq_false (by omega)
  trans x y z h1 h2 := by rw [ltZ] at *; have := of_decide_eq_true h1; have := of_decide_eq_true h2; exact decide_eq_true (by omega)
  ntrans x y z h1 h2 := by rw [ltZ] at *; have := of_decide_eq_false h1; have := of_decide_eq_false h2; exact decide_eq_false (by omega)
theorem cmpF_any (zs : List Int) [Inhabited (Fin zs.length)] (bx g o cap blk off size : Nat) (w : World) (hbx : w.cell? ⟨bx, 0, none⟩ = some (.slice (some ⟨g, o, none⟩) zs.length cap))
    (hc : ∀ i, i < zs.length → w.cell? ⟨g, o + i, none⟩ = some (.int .i64 (zs.getD i 0))) (h1 : bx ≠ blk) (h2 : g ≠ blk) : CmpF (.pointer (some ⟨bx, 0, none⟩)) (cfZ zs) blk off size w := by
  intro dk m x y hs
  refine ris1_any x.val y.val bx g o zs.length cap _ _ _ ?_ x.isLt y.isLt ?_ ?_
  · show (putRow eF w blk off dk).cell? _ = _
    rw [cell?_putRow_other _ _ _ _ _ _ (.inl h1)]; exact hbx
  · show (putRow eF w blk off dk).cell? _ = _
    rw [cell?_putRow_other _ _ _ _ _ _ (.inl h2)]; exact hc _ x.isLt
  · show (putRow eF w blk off dk).cell? _ = _
    rw [cell?_putRow_other _ _ _ _ _ _ (.inl h2)]; exact hc _ y.isLt
end Go.Proofs.Ytclmjopppaknjaa
