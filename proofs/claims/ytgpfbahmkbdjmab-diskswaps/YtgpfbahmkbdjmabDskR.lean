/- Two files, one of which takes the other's name (pure). -/
import Derived.Test.YtgpfbahmkbdjmabDskN
namespace Go.Proofs.Ytgpfbahmkbdjmab
set_option linter.unusedVariables false
set_option linter.unusedSimpArgs false

theorem cutF_safe {f : List UInt8 × Nat} (h : f.2 = f.1.length) (n : Int) : cutF f n = f := by
  unfold cutF
  have e : f.1.length - f.2 + 1 = 1 := by omega
  simp only [e, Int.natCast_one, Int.tmod_one, Int.toNat_zero, Nat.add_zero]
  rw [h, List.take_length, ← h]
theorem crC_safe (ks : List Int) (F : Fo) : ∀ (l : List (List UInt8)) (j : Nat) (fl : Nat → List UInt8 × Nat), (∀ g, (fl g).2 = (fl g).1.length) → crC ks F j l fl = fl
  | [], _, _, _ => rfl
  | x :: l, j, fl, h => by
    rw [crC]
    cases lk F x with
    | none => exact crC_safe ks F l (j + 1) fl h
    | some g =>
      have e : updF fl g (cutF (fl g) (kpN ks j)) = fl := by
        rw [cutF_safe (h g)]; funext k; unfold updF; split
        · rename_i e; rw [e]
        · rfl
      show crC ks F (j + 1) l (updF fl g (cutF (fl g) (kpN ks j))) = fl
      rw [e]
      exact crC_safe ks F l (j + 1) fl h
/-- Two files: a, and b that has been made since. -/
def two (g1 g2 : Nat) (o : List UInt8) (f : List UInt8 × Nat) (now sure : Fo) (steps : List Stp) : DS := ⟨1000, now, sure, steps, -1, false, updF (updF (fun _ => ([], 0)) g1 (o, o.length)) g2 f⟩
theorem two_ap {g1 g2 : Nat} {o d : List UInt8} (ho : o.length ≤ 100) (hd : d.length ≤ 100) (hne : g1 ≠ g2) : apE (one 1000 [97] g1 (o, o.length) (-1) false [([97], g1)] []) [98] d = 0 ∧
    apS (one 1000 [97] g1 (o, o.length) (-1) false [([97], g1)] []) [98] d g2 = two g1 g2 o (d, 0) [([98], g2), ([97], g1)] [([97], g1)] [⟨0, g2, [98], []⟩] := by
  have hdi : dieS (one 1000 [97] g1 (o, o.length) (-1) false [([97], g1)] []) = one 1000 [97] g1 (o, o.length) (-1) false [([97], g1)] [] := dieS_live (by show (-1 : Int) < 0; decide)
  have hnm : nameD [98] = true := by decide
  have hk : lk (one 1000 [97] g1 (o, o.length) (-1) false [([97], g1)] []).now [98] = none := by
    show lk [([97], g1)] [98] = none
    rw [lk_cons, if_neg (by simp)]; rfl
  have e : apE (one 1000 [97] g1 (o, o.length) (-1) false [([97], g1)] []) [98] d = 0 := by
    unfold apE; rw [hdi]; simp [hnm, one, usd_one, updF_same]; omega
  refine ⟨e, ?_⟩
  unfold apS; rw [if_pos e, hdi, hk]
  simp only [takeS, doF, hk, and_self, if_true]
  simp [one, two, pt, dl]
theorem two_sy {g1 g2 : Nat} {o d : List UInt8} (hne : g1 ≠ g2) : syE (two g1 g2 o (d, 0) [([98], g2), ([97], g1)] [([97], g1)] [⟨0, g2, [98], []⟩]) [98] = 0 ∧
    syS (two g1 g2 o (d, 0) [([98], g2), ([97], g1)] [([97], g1)] [⟨0, g2, [98], []⟩]) [98] = two g1 g2 o (d, d.length) [([98], g2), ([97], g1)] [([97], g1)] [⟨0, g2, [98], []⟩] := by
  have hdi : dieS (two g1 g2 o (d, 0) [([98], g2), ([97], g1)] [([97], g1)] [⟨0, g2, [98], []⟩]) = two g1 g2 o (d, 0) [([98], g2), ([97], g1)] [([97], g1)] [⟨0, g2, [98], []⟩] := dieS_live (by show (-1 : Int) < 0; decide)
  have hk : lk (two g1 g2 o (d, 0) [([98], g2), ([97], g1)] [([97], g1)] [⟨0, g2, [98], []⟩]).now [98] = some g2 := by show lk [([98], g2), ([97], g1)] [98] = some g2; rw [lk_cons, if_pos rfl]
  have hn : ¬ (two g1 g2 o (d, 0) [([98], g2), ([97], g1)] [([97], g1)] [⟨0, g2, [98], []⟩]).dead = true := by simp [two]
  unfold syE syS
  rw [hdi, if_neg hn, if_neg hn, hk]
  refine ⟨by simp, ?_⟩
  simp only [two, updF_same, DS.mk.injEq, true_and]
  funext k; unfold updF; split <;> rfl
theorem two_rn {g1 g2 : Nat} {o d : List UInt8} (hne : g1 ≠ g2) : rnE (two g1 g2 o (d, d.length) [([98], g2), ([97], g1)] [([97], g1)] [⟨0, g2, [98], []⟩]) [98] [97] = 0 ∧
    rnS (two g1 g2 o (d, d.length) [([98], g2), ([97], g1)] [([97], g1)] [⟨0, g2, [98], []⟩]) [98] [97] = two g1 g2 o (d, d.length) [([97], g2)] [([97], g1)] [⟨0, g2, [98], []⟩, ⟨1, g2, [98], [97]⟩] := by
  have hdi : dieS (two g1 g2 o (d, d.length) [([98], g2), ([97], g1)] [([97], g1)] [⟨0, g2, [98], []⟩]) = two g1 g2 o (d, d.length) [([98], g2), ([97], g1)] [([97], g1)] [⟨0, g2, [98], []⟩] := dieS_live (by show (-1 : Int) < 0; decide)
  have hk : lk (two g1 g2 o (d, d.length) [([98], g2), ([97], g1)] [([97], g1)] [⟨0, g2, [98], []⟩]).now [98] = some g2 := by show lk [([98], g2), ([97], g1)] [98] = some g2; rw [lk_cons, if_pos rfl]
  have hnm : nameD [97] = true := by decide
  have e : rnE (two g1 g2 o (d, d.length) [([98], g2), ([97], g1)] [([97], g1)] [⟨0, g2, [98], []⟩]) [98] [97] = 0 := by
    unfold rnE; rw [hdi, hk, hnm]; simp [two]
  refine ⟨e, ?_⟩
  unfold rnS; rw [if_pos e, hdi, hk]
  simp only [takeS, doF, hk]
  simp [two, pt, dl]
theorem two_se {g1 g2 : Nat} {o : List UInt8} {f : List UInt8 × Nat} {now sure : Fo} {steps : List Stp} : seE (two g1 g2 o f now sure steps) = 0 ∧ seS (two g1 g2 o f now sure steps) = two g1 g2 o f now now [] := by
  have hdi : dieS (two g1 g2 o f now sure steps) = two g1 g2 o f now sure steps := dieS_live (by show (-1 : Int) < 0; decide)
  unfold seE seS; rw [hdi]; exact ⟨rfl, rfl⟩
theorem two_safe {g1 g2 : Nat} {o d : List UInt8} (g : Nat) : (updF (updF (fun _ => ([], 0)) g1 (o, o.length)) g2 (d, d.length) g).2 = (updF (updF (fun _ => ([], 0)) g1 (o, o.length)) g2 (d, d.length) g).1.length := by
  unfold updF; split
  · rfl
  · split <;> rfl
/-- What a crash leaves of a's name. -/
theorem two_cr {g1 g2 : Nat} {o d : List UInt8} (hne : g1 ≠ g2) (now sure : Fo) (steps : List Stp) (ks : List Int) :
    crS (two g1 g2 o (d, d.length) now sure steps) ks = two g1 g2 o (d, d.length) (crF ks 0 steps sure) (crF ks 0 steps sure) [] := by
  unfold crS two
  simp only [crC_safe ks _ _ _ _ two_safe]
theorem two_fl {g1 g2 : Nat} {o : List UInt8} {f : List UInt8 × Nat} {now sure : Fo} {steps : List Stp} (hne : g1 ≠ g2) : (two g1 g2 o f now sure steps).fl g1 = (o, o.length) ∧ (two g1 g2 o f now sure steps).fl g2 = f :=
  ⟨by show updF _ _ _ _ = _; rw [updF_other _ _ hne, updF_same], by show updF _ _ _ _ = _; rw [updF_same]⟩
theorem two_swap {g1 g2 : Nat} {o d : List UInt8} (hne : g1 ≠ g2) (ks : List Int) : ∃ g, (g = g1 ∨ g = g2) ∧ lk (crF ks 0 [⟨0, g2, [98], []⟩, ⟨1, g2, [98], [97]⟩] [([97], g1)]) [97] = some g ∧ (crF ks 0 [⟨0, g2, [98], []⟩, ⟨1, g2, [98], [97]⟩] [([97], g1)]).length ≤ 2 := by
  simp only [crF]
  have h1 : doF [([97], g1)] ⟨0, g2, [98], []⟩ = [([98], g2), ([97], g1)] := by simp [doF, lk_cons, lk_nil, pt, dl]
  have h2 : doF [([97], g1)] ⟨1, g2, [98], [97]⟩ = [([97], g1)] := by simp [doF, lk_cons, lk_nil, pt, dl]
  have h3 : doF [([98], g2), ([97], g1)] ⟨1, g2, [98], [97]⟩ = [([97], g2)] := by simp [doF, lk_cons, lk_nil, pt, dl]
  by_cases e0 : (kpN ks 0).tmod 2 = 0
  · rw [if_pos e0]
    by_cases e1 : (kpN ks (0 + 1)).tmod 2 = 0
    · rw [if_pos e1]; exact ⟨g1, .inl rfl, lk_one _ _, by simp⟩
    · rw [if_neg e1, h2]; exact ⟨g1, .inl rfl, lk_one _ _, by simp⟩
  · rw [if_neg e0, h1]
    by_cases e1 : (kpN ks (0 + 1)).tmod 2 = 0
    · rw [if_pos e1]; exact ⟨g1, .inl rfl, by rw [lk_cons, if_neg (by simp), lk_cons, if_pos rfl], by simp⟩
    · rw [if_neg e1, h3]; exact ⟨g2, .inr rfl, lk_one _ _, by simp⟩
end Go.Proofs.Ytgpfbahmkbdjmab
