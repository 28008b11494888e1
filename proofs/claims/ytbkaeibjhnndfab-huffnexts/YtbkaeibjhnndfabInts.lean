/- A row of integers that is read, and the contract of the law's own few. -/
import Derived.Test.YtbkaeibjhnndfabRows
import Derived.Test.YtbkaeibjhnndfabBase
import Derived.Laws.OwnMore
import Derived.Laws.AppendOwnNone
import Derived.WalkSmall
import Derived.Deep.MidRow
namespace Go.Proofs.Ytbkaeibjhnndfab
open Go.RowKit
set_option linter.unusedVariables false

/-- v is a slice (not nil) of these integers. -/
def IR (w : World) (v : Value) (zs : List Int) : Prop := ∃ g cap, v = .slice (some ⟨g, 0, none⟩) zs.length cap ∧ g < w.heap.size ∧ ∀ i, i < zs.length → w.cell? ⟨g, i, none⟩ = some (.int .i64 (zs.getD i 0))
theorem IR.below {w w' : World} {v : Value} {zs : List Int} (h : IR w v zs) (hb : Below w.heap.size w w') : IR w' v zs := by
  obtain ⟨g, cap, rfl, hg, hc⟩ := h
  exact ⟨g, cap, rfl, Nat.lt_of_lt_of_le hg hb.size, fun i hi => by rw [hb.cell (p := ⟨g, i, none⟩) hg]; exact hc i hi⟩
theorem IR.kept {w w' : World} {v : Value} {zs : List Int} {row : Option Nat} (h : IR w v zs) (hg : w.grownBy w' row) (hne : v.ownBlock ≠ row) : IR w' v zs := by
  obtain ⟨g, cap, rfl, hgl, hc⟩ := h
  exact ⟨g, cap, rfl, Nat.lt_of_lt_of_le hgl hg.size, fun i hi => hg.cell (hc i hi) (by simpa [Value.ownBlock] using hne)⟩
theorem IR.drewN {w : World} {v : Value} {zs : List Int} (h : IR w v zs) (n : Nat) : IR (w.drewN n) v zs := h
/-- These integers as cells. -/
def ic (zs : List Int) : List Value := zs.map (Value.int .i64)
theorem ic_len (zs : List Int) : (ic zs).length = zs.length := by simp [ic]
theorem ic_at (zs : List Int) (i : Nat) (h : i < zs.length) : (ic zs)[i]? = some (.int .i64 (zs.getD i 0)) := by
  simp [ic, List.getElem?_eq_getElem h, List.getD_eq_getElem?_getD]
theorem ic_one (zs : List Int) : ∀ v ∈ ic zs, v.oneCell' = true := by
  intro v hv
  simp [ic] at hv
  obtain ⟨z, _, rfl⟩ := hv
  rfl
theorem Try.infoI : (Try.prog.info? 3).map (fun i => (i.zero, i.size, i.bytes)) = some (some (.int .i64 0), 1, 8) := by kernel_rfl
theorem IR.of {w : World} {B n : Nat} {v : Value} {zs : List Int} (h : w.ownsRow B 3 1 v n (ic zs)) (hne : ¬ v = .slice none 0 0) : IR w v zs := by
  have hl := h.1
  rw [ic_len, Nat.mul_one] at hl
  subst hl
  have hlt := h.lt
  rcases h.2 with ⟨q, _⟩ | ⟨g, cap, cur, rfl, _⟩
  · exact absurd q hne
  · exact ⟨g, cap, rfl, (hlt g rfl).2, fun i hi => by rw [h.cellAt i (by omega), ic_at _ _ hi]⟩
theorem few_copied {w w1 : World} {v1 : Value} {zs : List Int} {n : Nat} (hown : w1.ownsRow w.heap.size 3 1 v1 n (ic zs)) (hg : (w.alloc (.cells #[] 3)).grownBy w1 (Value.ownBlock (.slice (some ⟨w.heap.size, 0, none⟩) 0 0))) (hne : ¬ v1 = .slice none 0 0) :
    IR w1 v1 zs ∧ Below w.heap.size w w1 :=
  ⟨IR.of hown hne, ((Below.refl _ w).alloc (Nat.le_refl _) (.cells #[] 3)).grown hg (by simp) (fun k hk => by simp [Value.ownBlock] at hk; omega)⟩
/-- The numbers that 'few' leaves. -/
def fewZ (len : Nat) (zs : List Int) : List Int := zs.take (min len 400)
set_option maxRecDepth 100000 in
set_option maxHeartbeats 1000000 in
theorem few4_any (a : Option Addr) (len cap : Nat) (zs : List Int) (w : World) (hR : IsRow .i64 w a len cap zs) :
    Calls Try.prog 8 #[.slice a len cap] w fun e w' => ∃ v, e = .returned v ∧ IR w' v (fewZ len zs) ∧ Below w.heap.size w w' := by
  obtain ⟨i0, hi, hz0, hz1, hz2⟩ := info_parts Try.infoI
  rcases hR with ⟨rfl, rfl, rfl, rfl⟩ | ⟨x, rfl, hlc, hc, hzl, hcell, _⟩
  · have HO : Hid (IR (w.alloc (.cells #[] 3)) (.slice (some ⟨w.heap.size, 0, none⟩) 0 0) (fewZ 0 [])) := ⟨w.heap.size, 0, rfl, by rw [World.size_alloc]; omega, fun i hi => by simp [fewZ] at hi⟩
    have HB : Hid (Below w.heap.size w (w.alloc (.cells #[] 3))) := (Below.refl _ w).alloc (Nat.le_refl _) _
    go_enter Try.func8, Try.ntmps8
    go_wp2_with (at_builtin; refine wpList_append_own_none rfl _ _ 22 rfl w.heap.size 3 i0 1 Try.underlying22 hi _ 0 [] rfl (World.ownsRow_made _ _ _ (Nat.le_refl _) (by decide) rfl) rfl ?_)
    go_ret
    exact ⟨_, rfl, HO.out, HB.out⟩
  · have hfl : (fewZ len zs).length = min len 400 := by unfold fewZ; rw [List.length_take]; omega
    have HN : Hid (∀ j u, (ic (fewZ len zs))[j]? = some u → (w.alloc (.cells #[] 3)).cell? (x.add j) = some u) := fun j u hu => by
      have hj : j < (fewZ len zs).length := by have := (List.getElem?_eq_some_iff.1 hu).1; rwa [ic_len] at this
      have hj2 : j < zs.length := by rw [hfl] at hj; omega
      have hcc := hcell j hj2
      rw [World.cell?_alloc_lt _ _ _ (World.block_lt_of_cell? w _ hcc), hcc, ← hu, ic_at _ _ hj]
      unfold fewZ
      rw [List.getD_eq_getElem?_getD, List.getD_eq_getElem?_getD, List.getElem?_take, if_pos (by omega)]
    have H1 : Hid (∀ u ∈ ic (fewZ len zs), u.oneCell' = true) := ic_one _
    clear hcell
    by_cases h4 : 400 < len
    · have HL : Hid ((ic (fewZ len zs)).length = 400 * 1) := by unfold Hid; rw [ic_len, hfl]; omega
      have h4i : (400 : Int) < (len : Int) := by omega
      have h4c : (400 : Int) ≤ (cap : Int) := by omega
      go_enter Try.func8, Try.ntmps8
      go_wp2_with (at_builtin; refine wpList_append_own _ rfl _ _ 22 rfl w.heap.size 3 i0 (.int .i64 0) 1 8 Try.underlying22 hi hz0 hz1 hz2 rfl (by decide) _ 0 [] rfl (World.ownsRow_made _ _ _ (Nat.le_refl _) (by decide) rfl) x 400 cap (ic (fewZ len zs)) rfl HL.out HN.out H1.out ?c3 ?c4 ?c5 ?_)
      case c3 => decide
      case c4 => decide
      case c5 => simp
      intro v1 w1 hown1 hgrow1 hne1
      obtain ⟨hO1, hB1⟩ := few_copied hown1 hgrow1 hne1
      clear hown1 hgrow1 hne1 HN HL H1
      go_wp2
      go_ret
      exact ⟨_, rfl, hO1, hB1⟩
    · have HL : Hid ((ic (fewZ len zs)).length = len * 1) := by unfold Hid; rw [ic_len, hfl]; omega
      have h4i : ¬ (400 : Int) < (len : Int) := by omega
      go_enter Try.func8, Try.ntmps8
      go_wp2_with (at_builtin; refine wpList_append_own _ rfl _ _ 22 rfl w.heap.size 3 i0 (.int .i64 0) 1 8 Try.underlying22 hi hz0 hz1 hz2 rfl (by decide) _ 0 [] rfl (World.ownsRow_made _ _ _ (Nat.le_refl _) (by decide) rfl) x len cap (ic (fewZ len zs)) rfl HL.out HN.out H1.out ?c3 ?c4 ?c5 ?_)
      case c3 => unfold maxLen; omega
      case c4 => omega
      try (case c5 => simp)
      intro v1 w1 hown1 hgrow1 hne1
      obtain ⟨hO1, hB1⟩ := few_copied hown1 hgrow1 hne1
      clear hown1 hgrow1 hne1 HN HL H1
      go_wp2
      go_ret
      exact ⟨_, rfl, hO1, hB1⟩
end Go.Proofs.Ytbkaeibjhnndfab
