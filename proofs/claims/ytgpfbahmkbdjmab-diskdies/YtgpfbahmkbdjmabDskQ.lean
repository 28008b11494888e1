/- An armed disk (pure). -/
import Derived.Test.YtgpfbahmkbdjmabDskN
namespace Go.Proofs.Ytgpfbahmkbdjmab
set_option linter.unusedVariables false
set_option linter.unusedSimpArgs false

/-- An armed disk behind i appends of one byte. -/
def stD (n g i : Nat) : DS :=
  if min i n = 0 then ⟨1000, [], [], [], (n : Int) - ((min i n : Nat) : Int), decide (n < i), fun _ => ([], 0)⟩
  else one 1000 [97] g (List.replicate (min i n) 120, 0) ((n : Int) - ((min i n : Nat) : Int)) (decide (n < i)) [] [⟨0, g, [97], []⟩]
theorem stD_zero (n g : Nat) : stD n g 0 = ⟨1000, [], [], [], (n : Int), false, fun _ => ([], 0)⟩ := by
  unfold stD; rw [Nat.zero_min, if_pos rfl]; simp
theorem stD_left (n g i : Nat) : (stD n g i).left = (n : Int) - ((min i n : Nat) : Int) := by unfold stD; split <;> rfl
theorem stD_dead (n g i : Nat) : (stD n g i).dead = decide (n < i) := by unfold stD; split <;> rfl
theorem stD_bad (n g i : Nat) (h : n ≤ i) : dieS (stD n g i) = stD n g (i + 1) := by
  have e1 : min i n = n := by omega
  have e2 : min (i + 1) n = n := by omega
  have hl : (stD n g i).left = 0 := by rw [stD_left, e1]; omega
  unfold dieS
  rw [if_pos hl]
  unfold stD
  rw [e1, e2, decide_eq_true (show n < i + 1 by omega)]
  split <;> rfl
theorem stD_die (n g i : Nat) (h : i < n) : dieS (stD n g i) = { stD n g i with left := (n : Int) - ((i : Nat) : Int) - 1 } := by
  have hl : (stD n g i).left = (n : Int) - (i : Int) := by rw [stD_left, Nat.min_eq_left (by omega)]
  unfold dieS
  rw [if_neg (by omega), if_pos (by omega), hl]
theorem stD_used (n g i : Nat) : usd (stD n g i).fl (stD n g i).now = min i n := by
  unfold stD
  split
  · rename_i h; simp [usd, h]
  · simp [one, usd_one, updF_same]
theorem stD_ap_bad (n g i : Nat) (h : n ≤ i) (g' : Nat) : apE (stD n g i) [97] [120] = 10 ∧ apS (stD n g i) [97] [120] g' = stD n g (i + 1) := by
  have e : apE (stD n g i) [97] [120] = 10 := by
    unfold apE; rw [stD_bad n g i h, stD_dead, if_pos (by simp; omega)]
  refine ⟨e, ?_⟩
  unfold apS; rw [if_neg (by rw [e]; decide), stD_bad n g i h]
theorem stD_ap_ok (n g i : Nat) (hn : n ≤ 60) (h : i < n) (g' : Nat) : apE (stD n g i) [97] [120] = 0 ∧ apS (stD n g i) [97] [120] g' = stD n (if i = 0 then g' else g) (i + 1) := by
  have hd : (dieS (stD n g i)).dead = false := by rw [stD_die n g i h]; simp [stD_dead]; omega
  have e : apE (stD n g i) [97] [120] = 0 := by
    unfold apE; rw [hd, stD_used]
    have hr : (stD n g i).room = 1000 := by unfold stD; split <;> rfl
    rw [hr]
    have : nameD [97] = true := by decide
    simp [this]; omega
  refine ⟨e, ?_⟩
  unfold apS; rw [if_pos e, stD_die n g i h]
  by_cases h0 : i = 0
  · subst h0
    rw [stD_zero, if_pos rfl]
    simp only [lk_nil, takeS, doF, and_self, if_true, pt, dl, List.filter_nil, List.nil_append]
    unfold stD
    rw [Nat.min_eq_left (by omega), if_neg (by omega), decide_eq_false (by omega)]
    simp [one]
  · rw [if_neg h0]
    have e1 : min i n = i := by omega
    have e2 : min (i + 1) n = i + 1 := by omega
    unfold stD
    rw [e1, e2, if_neg (by omega), if_neg (by omega), decide_eq_false (by omega), decide_eq_false (by omega)]
    have hk : lk (one 1000 [97] g (List.replicate i 120, 0) ((n : Int) - (i : Int)) false [] [⟨0, g, [97], []⟩]).now [97] = some g := lk_one _ _
    rw [hk]
    simp only [one, updF_same, DS.mk.injEq, true_and]
    refine ⟨by omega, ?_⟩
    funext k; unfold updF; split
    · rw [← List.replicate_succ']
    · rfl
theorem stD_dies (n g i : Nat) (h : n < i) : dieS (stD n g i) = stD n g i := by
  rw [stD_bad n g i (by omega)]
  unfold stD
  rw [show min (i + 1) n = min i n by omega, decide_eq_true (show n < i + 1 by omega), decide_eq_true h]
theorem stD_lens (n g i : Nat) : (stD n g i).now.length ≤ 1 ∧ (stD n g i).steps.length ≤ 1 ∧ (stD n g i).sure.length = 0 := by
  unfold stD; split <;> simp [one]
/-- Behind a crash there is room for one more byte, under another name. -/
theorem stD_crash (n g i : Nat) (hn : n ≤ 60) : apE (crS (stD n g i) [1]) [98] [121] = 0 ∧ (crS (stD n g i) [1]).now.length ≤ 1 ∧ (crS (stD n g i) [1]).steps.length = 0 := by
  have hnm : nameD [98] = true := by decide
  by_cases h0 : min i n = 0
  · have e : stD n g i = ⟨1000, [], [], [], (n : Int) - ((min i n : Nat) : Int), decide (n < i), fun _ => ([], 0)⟩ := by unfold stD; rw [if_pos h0]
    rw [e]
    have e2 : crS ⟨1000, [], [], [], (n : Int) - ((min i n : Nat) : Int), decide (n < i), fun _ => ([], 0)⟩ [1] = ⟨1000, [], [], [], -1, false, fun _ => ([], 0)⟩ := by
      unfold crS; simp [crF, nms, crC]
    rw [e2]
    refine ⟨?_, by simp, rfl⟩
    unfold apE; rw [dieS_live (by decide)]; simp [hnm, usd]
  · have e : stD n g i = one 1000 [97] g (List.replicate (min i n) 120, 0) ((n : Int) - ((min i n : Nat) : Int)) (decide (n < i)) [] [⟨0, g, [97], []⟩] := by unfold stD; rw [if_neg h0]
    rw [e]
    have hF : crF [1] 0 (one 1000 [97] g (List.replicate (min i n) 120, 0) ((n : Int) - ((min i n : Nat) : Int)) (decide (n < i)) [] [⟨0, g, [97], []⟩]).steps (one 1000 [97] g (List.replicate (min i n) 120, 0) ((n : Int) - ((min i n : Nat) : Int)) (decide (n < i)) [] [⟨0, g, [97], []⟩]).sure = [([97], g)] := by
      simp [one, crF, kpN, doF, pt, dl, lk_nil]
    have hN : nms [([97], g)] = [[97]] := by simp [nms]
    unfold crS
    simp only [hF, hN]
    refine ⟨?_, by simp, rfl⟩
    unfold apE
    rw [dieS_live (by simp)]
    simp only [hnm, usd_one, crC, lk_one, updF_same]
    have hc : (cutF ((one 1000 [97] g (List.replicate (min i n) 120, 0) ((n : Int) - ((min i n : Nat) : Int)) (decide (n < i)) [] [⟨0, g, [97], []⟩]).fl g) (kpN [1] (one 1000 [97] g (List.replicate (min i n) 120, 0) ((n : Int) - ((min i n : Nat) : Int)) (decide (n < i)) [] [⟨0, g, [97], []⟩]).steps.length)).1.length ≤ 60 := by
      unfold cutF
      simp only [List.length_take, one, updF_same, List.length_replicate]
      omega
    simp only [one, List.length_cons, List.length_nil, Nat.zero_add] at hc ⊢
    simp
    omega
end Go.Proofs.Ytgpfbahmkbdjmab
