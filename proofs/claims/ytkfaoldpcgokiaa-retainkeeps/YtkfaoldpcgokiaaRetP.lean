/- How many a policy keeps. -/
import Derived.Test.YtkfaoldpcgokiaaRetD
namespace Go.Proofs.Ytkfaoldpcgokiaa
open Go.RowKit
set_option linter.unusedVariables false

/-- How many of the first k places have it. -/
def cB (f : Nat → Bool) : Nat → Nat
  | 0 => 0
  | k + 1 => cB f k + if f k = true then 1 else 0
theorem cB_yes {f : Nat → Bool} {k : Nat} (h : f k = true) : cB f (k + 1) = cB f k + 1 := by rw [cB, if_pos h]
theorem cB_no {f : Nat → Bool} {k : Nat} (h : f k = false) : cB f (k + 1) = cB f k := by rw [cB, if_neg (by rw [h]; simp)]; rfl
theorem cB_le (f : Nat → Bool) : ∀ k, cB f k ≤ k
  | 0 => Nat.le_refl _
  | k + 1 => by have := cB_le f k; rw [cB]; split <;> omega
theorem cB_or {f g h : Nat → Bool} : ∀ k, (∀ i, i < k → f i = true → g i = true ∨ h i = true) → cB f k ≤ cB g k + cB h k
  | 0, _ => Nat.zero_le _
  | k + 1, hh => by
    have ih := cB_or k (fun i hi => hh i (by omega))
    rw [cB, cB, cB]
    by_cases hf : f k = true
    · rcases hh k (by omega) hf with hg | hg
      · rw [if_pos hf, if_pos hg]; split <;> omega
      · rw [if_pos hf, if_pos hg]; split <;> omega
    · rw [if_neg hf]; omega
theorem cB_two {f g : Nat → Bool} : ∀ k, (∀ i, i < k → ¬ (f i = true ∧ g i = true)) → cB f k + cB g k ≤ k
  | 0, _ => Nat.le_refl _
  | k + 1, hh => by
    have ih := cB_two k (fun i hi => hh i (by omega))
    have h2 := hh k (by omega)
    rw [cB, cB]
    by_cases hf : f k = true
    · rw [if_pos hf, if_neg (fun h => h2 ⟨hf, h⟩)]; omega
    · rw [if_neg hf]; split <;> omega
theorem cB_last (n : Nat) (c : Int) (hc : 0 ≤ c) : ∀ k, (cB (fun i => decide ((n : Int) - i ≤ c)) k : Int) ≤ max 0 ((k : Int) - (n - c))
  | 0 => by simp [cB]; omega
  | k + 1 => by
    have ih := cB_last n c hc k
    rw [cB]
    by_cases h : (n : Int) - k ≤ c
    · rw [if_pos (decide_eq_true h)]; omega
    · rw [if_neg (by simp; omega)]; omega
theorem cB_shift (f : Nat → Bool) : ∀ k, cB f (k + 1) = (if f 0 = true then 1 else 0) + cB (fun i => f (i + 1)) k
  | 0 => by rw [cB, cB, cB]; omega
  | k + 1 => by rw [cB, cB_shift f k, cB]; omega
def cS (c : Int) : List Nat → Nat
  | [] => 0
  | v :: r => cS c r + if kS c (v :: r) = true then 1 else 0
theorem cS_le (c : Int) (hc : 0 ≤ c) : ∀ l, cS c l ≤ dv l ∧ (cS c l : Int) ≤ c
  | [] => ⟨Nat.le_refl _, hc⟩
  | v :: r => by
    obtain ⟨h1, h2⟩ := cS_le c hc r
    rw [cS]
    by_cases h : kS c (v :: r) = true
    · rw [if_pos h]
      rw [kS, Bool.and_eq_true, decide_eq_true_eq, decide_eq_true_eq] at h
      rw [dv, if_neg h.1]
      omega
    · rw [if_neg h]
      have := dv_cons v r
      omega
theorem cB_span {α : Type} (c : Int) (f : α → Nat) : ∀ l : List α, cB (kAt c f l) l.length = cS c (l.map f)
  | [] => rfl
  | x :: r => by
    have ih := cB_span c f r
    rw [List.length_cons, cB_shift, List.map_cons, cS]
    have : (fun i => kAt c f (x :: r) (i + 1)) = kAt c f r := by funext i; rfl
    rw [this, ih]
    have h0 : kAt c f (x :: r) 0 = kS c (f x :: r.map f) := rfl
    rw [h0]; omega
theorem bF_or (p : Pol) (l : List Sn) (i : Nat) (h : i < l.length) : bF (kpL p l) i = (((((decide ((l.length : Int) - i ≤ p.a)) || tgAt p.tg l i) || kAt p.d dyN l i) || kAt p.k wkN l i) || kAt p.m moF l i) := by
  rw [← kp_or p l i h, Bool.false_or]
/-- Kept, and not for a tag. -/
def ntB (p : Pol) (l : List Sn) (i : Nat) : Bool := bF (kpL p l) i && !tgAt p.tg l i
theorem nt_le (p : Pol) (l : List Sn) (hn : ¬ p.neg) (hl : l.length ≤ 25) : (cB (ntB p l) l.length : Int) ≤ min p.a 25 + min p.d 25 + min p.k 25 + min p.m 25 := by
  obtain ⟨q1, q2, q3, q4⟩ : 0 ≤ p.a ∧ 0 ≤ p.d ∧ 0 ≤ p.k ∧ 0 ≤ p.m := by unfold Pol.neg at hn; omega
  have e1 := cB_or (f := ntB p l) (g := fun i => decide ((l.length : Int) - i ≤ p.a)) (h := fun i => kAt p.d dyN l i || kAt p.k wkN l i || kAt p.m moF l i) l.length (fun i hi h => by
    unfold ntB at h
    rw [bF_or p l i hi] at h
    revert h
    cases decide ((l.length : Int) - i ≤ p.a) <;> cases tgAt p.tg l i <;> cases kAt p.d dyN l i <;> cases kAt p.k wkN l i <;> cases kAt p.m moF l i <;> simp)
  have e2 := cB_or (f := fun i => kAt p.d dyN l i || kAt p.k wkN l i || kAt p.m moF l i) (g := kAt p.d dyN l) (h := fun i => kAt p.k wkN l i || kAt p.m moF l i) l.length (fun i hi h => by
    revert h
    cases kAt p.d dyN l i <;> cases kAt p.k wkN l i <;> cases kAt p.m moF l i <;> simp)
  have e3 := cB_or (f := fun i => kAt p.k wkN l i || kAt p.m moF l i) (g := kAt p.k wkN l) (h := kAt p.m moF l) l.length (fun i hi h => by
    revert h
    cases kAt p.k wkN l i <;> cases kAt p.m moF l i <;> simp)
  have a1 := cB_last l.length p.a q1 l.length
  have a1' := cB_le (fun i => decide ((l.length : Int) - i ≤ p.a)) l.length
  have a2 := cS_le p.d q2 (l.map dyN)
  have a2' := cB_le (kAt p.d dyN l) l.length
  have a3 := cS_le p.k q3 (l.map wkN)
  have a3' := cB_le (kAt p.k wkN l) l.length
  have a4 := cS_le p.m q4 (l.map moF)
  have a4' := cB_le (kAt p.m moF l) l.length
  rw [← cB_span p.d dyN l] at a2
  rw [← cB_span p.k wkN l] at a3
  rw [← cB_span p.m moF l] at a4
  omega
theorem tg_kept (p : Pol) (l : List Sn) (i : Nat) (h : i < l.length) (ht : tgAt p.tg l i = true) : bF (kpL p l) i = true := by
  rw [bF_or p l i h, ht]; simp
def noP : Pol := ⟨0, 0, 0, 0, []⟩
theorem kS_zero' (l : List Nat) : kS 0 l = false := by
  cases l with
  | nil => rfl
  | cons v r => rw [kS, Bool.and_eq_false_iff]; right; apply decide_eq_false; omega
theorem noP_keeps (l : List Sn) (i : Nat) (h : i < l.length) : bF (kpL noP l) i = false := by
  rw [bF_or noP l i h]
  unfold kAt noP tgAt
  rw [kS_zero', kS_zero', kS_zero', List.getElem?_eq_getElem h]
  simp
  omega
theorem noP_err {p : Pol} {l : List Sn} (h : ¬ p.neg) : errR noP l = errR p l := by
  unfold errR; rw [if_neg h, if_neg (by decide)]
theorem noP_tm (l : List Sn) : errR noP l = tmE l := by unfold errR; rw [if_neg (by decide)]
/-- The sum of the least of each and 25. -/
def mS (xs : List Int) (k : Nat) : Int := ((xs.take k).map (fun x => min x 25)).sum
theorem mS_succ (xs : List Int) (k : Nat) (h : k < xs.length) : mS xs (k + 1) = mS xs k + min (xs.getD k 0) 25 := by
  unfold mS
  rw [List.take_succ_eq_append_getElem h, List.map_append, List.sum_append, List.getD_eq_getElem?_getD, List.getElem?_eq_getElem h]
  simp
end Go.Proofs.Ytkfaoldpcgokiaa
