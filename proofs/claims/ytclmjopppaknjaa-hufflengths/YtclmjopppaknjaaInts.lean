/- Contract of the law's own few. -/
import Derived.Test.YtclmjopppaknjaaIntR
namespace Go.Proofs.Ytclmjopppaknjaa
open Go.RowKit
set_option linter.unusedVariables false

theorem few_copied {w w1 : World} {v1 : Value} {zs : List Int} {n : Nat} (hown : w1.ownsRow w.heap.size 3 1 v1 n (ic zs)) (hg : (w.alloc (.cells #[] 3)).grownBy w1 (Value.ownBlock (.slice (some ⟨w.heap.size, 0, none⟩) 0 0))) (hne : ¬ v1 = .slice none 0 0) :
    IR w1 v1 zs ∧ Below w.heap.size w w1 :=
  ⟨IR.of hown hne, ((Below.refl _ w).alloc (Nat.le_refl _) (.cells #[] 3)).grown hg (by simp) (fun k hk => by simp [Value.ownBlock] at hk; omega)⟩
/-- The numbers that 'few' leaves. -/
def fewZ (len : Nat) (zs : List Int) : List Int := zs.take (min len 400)
set_option maxRecDepth 100000 in
set_option maxHeartbeats 1000000 in
theorem few4_any (a : Option Addr) (len cap : Nat) (zs : List Int) (w : World) (hR : IsRow .i64 w a len cap zs) :
    Calls Try.prog 6 #[.slice a len cap] w fun e w' => ∃ v, e = .returned v ∧ IR w' v (fewZ len zs) ∧ Below w.heap.size w w' := by
  obtain ⟨i0, hi, hz0, hz1, hz2⟩ := info_parts Try.infoI
  rcases hR with ⟨rfl, rfl, rfl, rfl⟩ | ⟨x, rfl, hlc, hc, hzl, hcell, _⟩
  · have HO : Hid (IR (w.alloc (.cells #[] 3)) (.slice (some ⟨w.heap.size, 0, none⟩) 0 0) (fewZ 0 [])) := ⟨w.heap.size, 0, rfl, by rw [World.size_alloc]; omega, fun i hi => by simp [fewZ] at hi⟩
    have HB : Hid (Below w.heap.size w (w.alloc (.cells #[] 3))) := (Below.refl _ w).alloc (Nat.le_refl _) _
    go_enter Try.func6, Try.ntmps6
    go_wp2_with (at_builtin; refine wpList_append_own_none rfl _ _ 22 rfl w.heap.size 3 i0 1 Try.underlying22 hi _ 0 [] rfl (World.ownsRow_made _ _ _ (Nat.le_refl _) (by decide) rfl) rfl ?_)
    go_ret
    exact ⟨_, rfl, HO.out, HB.out⟩
  · have hfl : (fewZ len zs).length = min len 400 := by unfold fewZ; rw [List.length_take]; omega
    have HN : Hid (∀ j u, (ic (fewZ len zs))[j]? = some u → (w.alloc (.cells #[] 3)).cell? (x.add j) = some u) := fun j u hu => by
      have hj : j < (fewZ len zs).length := by have := (List.getElem?_eq_some_iff.1 hu).1; rwa [ic_len] at this
      have hj2 : j < zs.length := by rw [hfl] at hj; omega
      have hcc := hcell j hj2
      rw [World.cell?_alloc_lt _ _ _ (World.block_lt_of_cell? w _ hcc), hcc, ← hu, ic_at _ _ hj]
      unfold fewZ
      rw [List.getD_eq_getElem?_getD, List.getD_eq_getElem?_getD, List.getElem?_take, if_pos (by omega)]
    have H1 : Hid (∀ u ∈ ic (fewZ len zs), u.oneCell' = true) := ic_one _
    clear hcell
    by_cases h4 : 400 < len
    · have HL : Hid ((ic (fewZ len zs)).length = 400 * 1) := by unfold Hid; rw [ic_len, hfl]; omega
      have h4i : (400 : Int) < (len : Int) := by omega
      have h4c : (400 : Int) ≤ (cap : Int) := by omega
      go_enter Try.func6, Try.ntmps6
      go_wp2_with (at_builtin; refine wpList_append_own _ rfl _ _ 22 rfl w.heap.size 3 i0 (.int .i64 0) 1 8 Try.underlying22 hi hz0 hz1 hz2 rfl (by decide) _ 0 [] rfl (World.ownsRow_made _ _ _ (Nat.le_refl _) (by decide) rfl) x 400 cap (ic (fewZ len zs)) rfl HL.out HN.out H1.out ?c3 ?c4 ?c5 ?_)
      case c3 => decide
      case c4 => decide
      case c5 => simp
      intro v1 w1 hown1 hgrow1 hne1
      obtain ⟨hO1, hB1⟩ := few_copied hown1 hgrow1 hne1
      clear hown1 hgrow1 hne1 HN HL H1
      go_wp2
      go_ret
      exact ⟨_, rfl, hO1, hB1⟩
    · have HL : Hid ((ic (fewZ len zs)).length = len * 1) := by unfold Hid; rw [ic_len, hfl]; omega
      have h4i : ¬ (400 : Int) < (len : Int) := by omega
      go_enter Try.func6, Try.ntmps6
      go_wp2_with (at_builtin; refine wpList_append_own _ rfl _ _ 22 rfl w.heap.size 3 i0 (.int .i64 0) 1 8 Try.underlying22 hi hz0 hz1 hz2 rfl (by decide) _ 0 [] rfl (World.ownsRow_made _ _ _ (Nat.le_refl _) (by decide) rfl) x len cap (ic (fewZ len zs)) rfl HL.out HN.out H1.out ?c3 ?c4 ?c5 ?_)
      case c3 => unfold maxLen; omega
      case c4 => omega
      try (case c5 => simp)
      intro v1 w1 hown1 hgrow1 hne1
      obtain ⟨hO1, hB1⟩ := few_copied hown1 hgrow1 hne1
      clear hown1 hgrow1 hne1 HN HL H1
      go_wp2
      go_ret
      exact ⟨_, rfl, hO1, hB1⟩
end Go.Proofs.Ytclmjopppaknjaa
