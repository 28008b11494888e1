/- What the disk's calls make of a disk, step by step; what a crash leaves (pure). -/
import Derived.Test.YtkaikjlklhcnlaaDskE
namespace Go.Proofs.Ytkaikjlklhcnlaa
set_option linter.unusedVariables false
set_option linter.unusedSimpArgs false

theorem die_cases (S : DS) (h : S.dead = false) : (dieS S = { S with dead := true } ∧ S.left = 0) ∨ ∃ l', (S.left < 0 → l' = S.left) ∧ dieS S = { S with left := l' } := by
  unfold dieS
  by_cases h0 : S.left = 0
  · left; rw [if_pos h0]; exact ⟨rfl, h0⟩
  · right
    rw [if_neg h0]
    by_cases h1 : 0 < S.left
    · rw [if_pos h1]; exact ⟨S.left - 1, by omega, rfl⟩
    · rw [if_neg h1]; exact ⟨S.left, fun _ => rfl, rfl⟩
theorem dl_absent {F : Fo} {x : List UInt8} (h : lk F x = none) : dl F x = F := by
  rw [lk_none_iff] at h
  unfold dl
  rw [List.filter_eq_self]
  intro p hp
  simp only [bne_iff_ne]
  intro e
  exact h (List.mem_map.2 ⟨p, hp, e⟩)
theorem rm_step (S : DS) (h : S.dead = false) (x : List UInt8) : (syE S x = 10 ∧ rmS S x = { S with dead := true } ∧ S.left = 0) ∨
    ∃ l', (S.left < 0 → l' = S.left) ∧ ((lk S.now x = none ∧ syE S x = 7 ∧ rmS S x = { S with left := l' }) ∨
      ∃ t, lk S.now x = some t ∧ syE S x = 0 ∧ rmS S x = { S with left := l', now := dl S.now x, steps := S.steps ++ [⟨2, t, x, []⟩] }) := by
  rcases die_cases S h with ⟨e, hl⟩ | ⟨l', hl, e⟩
  · left
    have e1 : syE S x = 10 := by unfold syE; rw [e, if_pos rfl]
    refine ⟨e1, ?_, hl⟩
    unfold rmS; rw [e1, if_neg (by decide), e]
  · right
    refine ⟨l', hl, ?_⟩
    have hd : ¬ (dieS S).dead = true := by rw [e]; show ¬ S.dead = true; rw [h]; decide
    cases hk : lk S.now x with
    | none =>
      left
      have e1 : syE S x = 7 := by unfold syE; rw [if_neg hd, if_pos hk]
      refine ⟨rfl, e1, ?_⟩
      unfold rmS; rw [e1, if_neg (by decide), e]
    | some t =>
      right
      have e1 : syE S x = 0 := by unfold syE; rw [if_neg hd, if_neg (by rw [hk]; simp)]
      refine ⟨t, rfl, e1, ?_⟩
      unfold rmS; rw [e1, if_pos rfl, hk, e]
      show takeS _ _ = _
      unfold takeS doF
      simp [hk]
theorem se_step (S : DS) (h : S.dead = false) : (seE S = 10 ∧ seS S = { S with dead := true } ∧ S.left = 0) ∨
    ∃ l', (S.left < 0 → l' = S.left) ∧ seE S = 0 ∧ seS S = { S with left := l', sure := S.now, steps := [] } := by
  rcases die_cases S h with ⟨e, hl⟩ | ⟨l', hl, e⟩
  · left
    unfold seE seS; rw [e, if_pos rfl, if_pos rfl]; exact ⟨rfl, rfl, hl⟩
  · right
    have hd : ¬ (dieS S).dead = true := by rw [e]; show ¬ S.dead = true; rw [h]; decide
    unfold seE seS; rw [if_neg hd, if_neg hd, e]; exact ⟨l', hl, rfl, rfl⟩
theorem ap_step (S : DS) (h : S.dead = false) (x X : List UInt8) (g : Nat) (hx : nameD x = true) : (apE S x X = 10 ∧ apS S x X g = { S with dead := true } ∧ S.left = 0) ∨
    ∃ l', (S.left < 0 → l' = S.left) ∧ ((S.room < (usd S.fl S.now : Int) + X.length ∧ apE S x X = 9 ∧ apS S x X g = { S with left := l' }) ∨
      ((usd S.fl S.now : Int) + X.length ≤ S.room ∧ lk S.now x = none ∧ apE S x X = 0 ∧ apS S x X g = { S with left := l', now := (x, g) :: S.now, steps := S.steps ++ [⟨0, g, x, []⟩], fl := updF S.fl g (X, 0) }) ∨
      ∃ a, (usd S.fl S.now : Int) + X.length ≤ S.room ∧ lk S.now x = some a ∧ apE S x X = 0 ∧ apS S x X g = { S with left := l', fl := updF S.fl a ((S.fl a).1 ++ X, (S.fl a).2) }) := by
  rcases die_cases S h with ⟨e, hl⟩ | ⟨l', hl, e⟩
  · left
    have e1 : apE S x X = 10 := by unfold apE; rw [e, if_pos rfl]
    refine ⟨e1, ?_, hl⟩
    unfold apS; rw [e1, if_neg (by decide), e]
  · right
    refine ⟨l', hl, ?_⟩
    have hd : ¬ (dieS S).dead = true := by rw [e]; show ¬ S.dead = true; rw [h]; decide
    by_cases hr : S.room < (usd S.fl S.now : Int) + X.length
    · left
      have e1 : apE S x X = 9 := by unfold apE; rw [if_neg hd, hx, if_neg (by decide), if_pos hr]
      refine ⟨hr, e1, ?_⟩
      unfold apS; rw [e1, if_neg (by decide), e]
    · right
      have e1 : apE S x X = 0 := by unfold apE; rw [if_neg hd, hx, if_neg (by decide), if_neg hr]
      cases hk : lk S.now x with
      | none =>
        left
        refine ⟨by omega, rfl, e1, ?_⟩
        unfold apS; rw [e1, if_pos rfl, hk, e]
        simp only [takeS, doF, hk, pt, dl_absent hk]
        rfl
      | some a =>
        right
        refine ⟨a, by omega, rfl, e1, ?_⟩
        unfold apS; rw [e1, if_pos rfl, hk, e]
theorem sy_step (S : DS) (h : S.dead = false) (x : List UInt8) (a : Nat) (hk : lk S.now x = some a) : (syE S x = 10 ∧ syS S x = { S with dead := true } ∧ S.left = 0) ∨
    ∃ l', (S.left < 0 → l' = S.left) ∧ syE S x = 0 ∧ syS S x = { S with left := l', fl := updF S.fl a ((S.fl a).1, (S.fl a).1.length) } := by
  rcases die_cases S h with ⟨e, hl⟩ | ⟨l', hl, e⟩
  · left
    unfold syE syS; rw [e, if_pos rfl, if_pos rfl]; exact ⟨rfl, rfl, hl⟩
  · right
    have hd : ¬ (dieS S).dead = true := by rw [e]; show ¬ S.dead = true; rw [h]; decide
    unfold syE syS; rw [if_neg hd, if_neg hd, if_neg (by rw [hk]; simp), hk, e]; exact ⟨l', hl, rfl, rfl⟩
theorem rn_step (S : DS) (h : S.dead = false) (x y : List UInt8) (a : Nat) (hk : lk S.now x = some a) (hy : nameD y = true) : (rnE S x y = 10 ∧ rnS S x y = { S with dead := true } ∧ S.left = 0) ∨
    ∃ l', (S.left < 0 → l' = S.left) ∧ rnE S x y = 0 ∧ rnS S x y = { S with left := l', now := pt (dl S.now x) y a, steps := S.steps ++ [⟨1, a, x, y⟩] } := by
  rcases die_cases S h with ⟨e, hl⟩ | ⟨l', hl, e⟩
  · left
    have e1 : rnE S x y = 10 := by unfold rnE; rw [e, if_pos rfl]
    refine ⟨e1, ?_, hl⟩
    unfold rnS; rw [e1, if_neg (by decide), e]
  · right
    have hd : ¬ (dieS S).dead = true := by rw [e]; show ¬ S.dead = true; rw [h]; decide
    have e1 : rnE S x y = 0 := by unfold rnE; rw [if_neg hd, if_neg (by rw [hk]; simp), hy, if_neg (by decide)]
    refine ⟨l', hl, e1, ?_⟩
    unfold rnS; rw [e1, if_pos rfl, hk, e]
    show takeS _ _ = _
    unfold takeS doF
    simp [hk]

theorem cutF_form (f : List UInt8 × Nat) (z : Int) (h : f.2 ≤ f.1.length) : ∃ m, f.2 ≤ m ∧ m ≤ f.1.length ∧ cutF f z = (f.1.take m, m) := by
  obtain ⟨M, hM⟩ : ∃ M, f.1.length - f.2 + 1 = M := ⟨_, rfl⟩
  have hr : ((z.tmod M + M).tmod M).toNat < M := by
    have h1 : (z.tmod M + M).tmod M < (M : Int) := Int.tmod_lt_of_pos _ (by omega)
    have h2 := Int.tmod_lt_of_pos (-z) (show (0 : Int) < M by omega)
    rw [Int.neg_tmod] at h2
    have h3 : 0 ≤ (z.tmod M + M).tmod M := Int.tmod_nonneg _ (by omega)
    omega
  refine ⟨f.2 + ((z.tmod M + M).tmod M).toNat, by omega, by omega, ?_⟩
  unfold cutF
  simp only [hM]
theorem crC_cut (ks : List Int) (F : Fo) (g : Nat) : ∀ (l : List (List UInt8)) (j : Nat) (fl : Nat → List UInt8 × Nat), (fl g).2 ≤ (fl g).1.length →
    (crC ks F j l fl g = fl g ∨ ∃ m, (fl g).2 ≤ m ∧ m ≤ (fl g).1.length ∧ crC ks F j l fl g = ((fl g).1.take m, m)) ∧
    ((∃ x ∈ l, lk F x = some g) → ∃ m, (fl g).2 ≤ m ∧ m ≤ (fl g).1.length ∧ crC ks F j l fl g = ((fl g).1.take m, m))
  | [], j, fl, _ => ⟨.inl rfl, fun ⟨x, hx, _⟩ => (by cases hx)⟩
  | y :: l, j, fl, h => by
    rw [crC]
    by_cases hy : lk F y = some g
    · rw [hy]
      obtain ⟨m, h1, h2, h3⟩ := cutF_form (fl g) (kpN ks j) h
      have e : (updF fl g (cutF (fl g) (kpN ks j))) g = ((fl g).1.take m, m) := by rw [updF_same, h3]
      have el : ((fl g).1.take m).length = m := by rw [List.length_take]; omega
      obtain ⟨i1, _⟩ := crC_cut ks F g l (j + 1) (updF fl g (cutF (fl g) (kpN ks j))) (by rw [e]; simp only; omega)
      rw [e] at i1
      have : ∃ m, (fl g).2 ≤ m ∧ m ≤ (fl g).1.length ∧ crC ks F (j + 1) l (updF fl g (cutF (fl g) (kpN ks j))) g = ((fl g).1.take m, m) := by
        refine ⟨m, h1, h2, ?_⟩
        rcases i1 with i1 | ⟨m', q1, q2, q3⟩
        · exact i1
        · simp only at q1 q2 q3
          rw [el] at q2
          obtain rfl : m' = m := by omega
          rw [q3, List.take_take, Nat.min_self]
      exact ⟨.inr this, fun _ => this⟩
    · have e : ∀ fl' : Nat → List UInt8 × Nat, (match lk F y with | some g => updF fl' g (cutF (fl' g) (kpN ks j)) | none => fl') g = fl' g := fun fl' => by
        cases hl : lk F y with
        | none => rfl
        | some g' => exact updF_other _ _ (fun e2 => hy (by rw [hl, e2]))
      obtain ⟨i1, i2⟩ := crC_cut ks F g l (j + 1) (match lk F y with | some g => updF fl g (cutF (fl g) (kpN ks j)) | none => fl) (by rw [e fl]; exact h)
      rw [e fl] at i1 i2
      refine ⟨i1, fun ⟨x, hx, hg⟩ => i2 ?_⟩
      rcases List.mem_cons.1 hx with rfl | hx
      · exact absurd hg hy
      · exact ⟨x, hx, hg⟩
/-- A crash: what is there then, and what is left of each file. -/
theorem cr_facts (S : DS) (ks : List Int) (F : Fo) (hF : crF ks 0 S.steps S.sure = F) : (crS S ks).room = S.room ∧ (crS S ks).now = F ∧ (crS S ks).sure = F ∧ (crS S ks).steps = [] ∧ (crS S ks).left = -1 ∧ (crS S ks).dead = false ∧
    ∀ g, (S.fl g).2 ≤ (S.fl g).1.length → ((S.fl g).2 = (S.fl g).1.length → (crS S ks).fl g = S.fl g) ∧ ((crS S ks).fl g).1.length ≤ (S.fl g).1.length ∧ ((∃ x, lk F x = some g) → ∃ m, (S.fl g).2 ≤ m ∧ m ≤ (S.fl g).1.length ∧ (crS S ks).fl g = ((S.fl g).1.take m, m)) := by
  subst hF
  refine ⟨rfl, rfl, rfl, rfl, rfl, rfl, fun g hg => ?_⟩
  obtain ⟨i1, i2⟩ := crC_cut ks (crF ks 0 S.steps S.sure) g (nms (crF ks 0 S.steps S.sure)) S.steps.length S.fl hg
  refine ⟨fun hs => ?_, ?_, fun ⟨x, hx⟩ => i2 ⟨x, ?_, hx⟩⟩
  · rcases i1 with i1 | ⟨m, q1, q2, q3⟩
    · exact i1
    · have : m = (S.fl g).1.length := by omega
      show crC _ _ _ _ _ _ = _
      rw [q3, this, List.take_length]
      exact Prod.ext rfl hs.symm
  · show (crC _ _ _ _ _ _).1.length ≤ _
    rcases i1 with i1 | ⟨m, q1, q2, q3⟩
    · rw [i1]; exact Nat.le_refl _
    · rw [q3]; simp only [List.length_take]; omega
  · unfold nms; rw [List.mem_mergeSort]; exact List.mem_map.2 ⟨_, lk_some_mem hx, rfl⟩
end Go.Proofs.Ytkaikjlklhcnlaa
