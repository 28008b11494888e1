/- What is kept is kept again. -/
import Derived.Test.YtkfaoldpcgokiaaRetE
namespace Go.Proofs.Ytkfaoldpcgokiaa
open Go.RowKit
set_option linter.unusedVariables false

theorem kS_sub {c : Int} {v : Nat} {r r' : List Nat} (hs : ∀ x ∈ r', x ∈ r) (h : kS c (v :: r) = true) : kS c (v :: r') = true := by
  rw [kS, Bool.and_eq_true, decide_eq_true_eq, decide_eq_true_eq] at h ⊢
  have := dv_sub r' r hs
  exact ⟨fun hm => h.1 (hs v hm), by omega⟩
theorem kS_wide {c c' : Int} {l : List Nat} (hc : c ≤ c') (h : kS c l = true) : kS c' l = true := by
  cases l with
  | nil => exact h
  | cons v r =>
    rw [kS, Bool.and_eq_true, decide_eq_true_eq, decide_eq_true_eq] at h ⊢
    exact ⟨h.1, by omega⟩
theorem kp_five (p : Pol) (x : Sn) (r : List Sn) : kp p (x :: r) = true ↔ ((r.length : Int) + 1 ≤ p.a ∨ x.g ∈ p.tg ∨ kS p.d ((x :: r).map dyN) = true ∨ kS p.k ((x :: r).map wkN) = true ∨ kS p.m ((x :: r).map moF) = true) := by
  rw [kp]; simp only [Bool.or_eq_true, decide_eq_true_eq, or_assoc]
theorem kp_sub {p : Pol} {x : Sn} {r r' : List Sn} (hs : r'.Sublist r) (h : kp p (x :: r) = true) : kp p (x :: r') = true := by
  rw [kp_five] at h ⊢
  have hl := hs.length_le
  have hm : ∀ f : Sn → Nat, ∀ y ∈ r'.map f, y ∈ r.map f := fun f y hy => by
    obtain ⟨z, hz, rfl⟩ := List.mem_map.1 hy
    exact List.mem_map.2 ⟨z, hs.subset hz, rfl⟩
  rcases h with h | h | h | h | h
  · exact .inl (by omega)
  · exact .inr (.inl h)
  · exact .inr (.inr (.inl (kS_sub (hm dyN) h)))
  · exact .inr (.inr (.inr (.inl (kS_sub (hm wkN) h))))
  · exact .inr (.inr (.inr (.inr (kS_sub (hm moF) h))))
/-- A policy that keeps no less. -/
structure Wider (p q : Pol) : Prop where
  a : p.a ≤ q.a
  d : p.d ≤ q.d
  k : p.k ≤ q.k
  m : p.m ≤ q.m
  tg : ∀ x ∈ p.tg, x ∈ q.tg
theorem kp_wide {p q : Pol} (w : Wider p q) : ∀ {l : List Sn}, kp p l = true → kp q l = true
  | [], h => h
  | x :: r, h => by
    rw [kp_five] at h ⊢
    rcases h with h | h | h | h | h
    · exact .inl (Int.le_trans h w.a)
    · exact .inr (.inl (w.tg _ h))
    · exact .inr (.inr (.inl (kS_wide w.d h)))
    · exact .inr (.inr (.inr (.inl (kS_wide w.k h))))
    · exact .inr (.inr (.inr (.inr (kS_wide w.m h))))
/-- Those that are kept. -/
def kL (p : Pol) : List Sn → List Sn
  | [] => []
  | x :: r => if kp p (x :: r) = true then x :: kL p r else kL p r
theorem kL_sub (p : Pol) : ∀ l, (kL p l).Sublist l
  | [] => List.Sublist.refl _
  | x :: r => by
    rw [kL]; split
    · exact (kL_sub p r).cons_cons x
    · exact (kL_sub p r).cons x
theorem kL_all (p : Pol) : ∀ l, ∀ b ∈ kpL p (kL p l), b = true
  | [], b, h => by cases h
  | x :: r, b, h => by
    rw [kL] at h
    split at h
    · rename_i hk
      rw [kpL] at h
      rcases List.mem_cons.1 h with e | e
      · rw [e]; exact kp_sub (kL_sub p r) hk
      · exact kL_all p r b e
    · exact kL_all p r b h
theorem bF_kL (p : Pol) (l : List Sn) (i : Nat) (h : i < (kL p l).length) : bF (kpL p (kL p l)) i = true := by
  have h2 : i < (kpL p (kL p l)).length := by rw [kpL_len]; exact h
  unfold bF
  rw [List.getD_eq_getElem?_getD, List.getElem?_eq_getElem h2, Option.getD_some]
  exact kL_all p l _ (List.getElem_mem h2)
theorem kL_gone (p : Pol) (l : List Sn) : ∀ k, k ≤ (kL p l).length → goneP p (kL p l) k = []
  | 0, _ => rfl
  | k + 1, h => by rw [goneP_yes (bF_kL p l k (by omega))]; exact kL_gone p l k (by omega)
theorem bF_drop0 (p : Pol) (l : List Sn) (k : Nat) (h : k < l.length) : bF (kpL p l) k = kp p (l.drop k) := by
  unfold bF
  rw [List.getD_eq_getElem?_getD, kpL_at p l k h, Option.getD_some]
/-- Behind place k. -/
theorem kL_step (p : Pol) (l : List Sn) (k : Nat) (x : Sn) (hx : l[k]? = some x) : kL p (l.drop k) = if bF (kpL p l) k = true then x :: kL p (l.drop (k + 1)) else kL p (l.drop (k + 1)) := by
  obtain ⟨hk, he⟩ := List.getElem?_eq_some_iff.1 hx
  rw [bF_drop0 p l k hk, List.drop_eq_getElem_cons hk, he, kL]
theorem wide_kept {p q : Pol} (w : Wider p q) (l : List Sn) (i : Nat) (h : i < l.length) (hb : bF (kpL p l) i = true) : bF (kpL q l) i = true := by
  rw [bF_drop0 p l i h] at hb
  rw [bF_drop0 q l i h]
  exact kp_wide w hb
theorem last_kept {p : Pol} (hn : ¬ p.neg) (hs : 0 < p.a + p.d + p.k + p.m) (l : List Sn) (i : Nat) (h : i + 1 = l.length) : bF (kpL p l) i = true := by
  rw [bF_drop0 p l i (by omega)]
  obtain ⟨x, hx⟩ : ∃ x, l.drop i = [x] := by
    rw [List.drop_eq_getElem_cons (by omega), List.drop_eq_nil_of_le (by omega)]
    exact ⟨_, rfl⟩
  rw [hx, kp_five]
  obtain ⟨q1, q2, q3, q4⟩ : 0 ≤ p.a ∧ 0 ≤ p.d ∧ 0 ≤ p.k ∧ 0 ≤ p.m := by unfold Pol.neg at hn; omega
  have hk : ∀ (c : Int) (v : Nat), 0 < c → kS c [v] = true := fun c v hc => by
    rw [kS, Bool.and_eq_true, decide_eq_true_eq, decide_eq_true_eq]
    exact ⟨by simp, by simp [dv]; omega⟩
  rcases (by omega : 0 < p.a ∨ 0 < p.d ∨ 0 < p.k ∨ 0 < p.m) with h | h | h | h
  · exact .inl (by simp; omega)
  · exact .inr (.inr (.inl (hk _ _ h)))
  · exact .inr (.inr (.inr (.inl (hk _ _ h))))
  · exact .inr (.inr (.inr (.inr (hk _ _ h))))
theorem tmB_sub : ∀ (l l' : List Sn) (a : Int), l'.Sublist l → tmB a l = true → tmB a l' = true
  | [], l', a, hs, h => by rw [List.sublist_nil.1 hs]; rfl
  | x :: r, l', a, hs, h => by
    rw [tmB, Bool.and_eq_true, decide_eq_true_eq] at h
    cases hs with
    | cons _ hs' =>
      refine tmB_le _ _ _ (tmB_sub r l' x.t hs' h.2) h.1.1
    | cons_cons _ hs' =>
      rename_i r'
      rw [tmB, Bool.and_eq_true, decide_eq_true_eq]
      exact ⟨h.1, tmB_sub r r' x.t hs' h.2⟩
where
  tmB_le : ∀ (l : List Sn) (a b : Int), tmB b l = true → a ≤ b → tmB a l = true
    | [], a, b, h, hab => rfl
    | x :: r, a, b, h, hab => by
      rw [tmB, Bool.and_eq_true, decide_eq_true_eq] at h ⊢
      exact ⟨⟨by omega, h.1.2⟩, h.2⟩
theorem err_parts {p : Pol} {l : List Sn} (h : errR p l = 0) : ¬ p.neg ∧ tmB 0 l = true := by
  have hneg : ¬ p.neg := fun hn => by unfold errR at h; rw [if_pos hn] at h; cases h
  refine ⟨hneg, ?_⟩
  unfold errR tmE at h; rw [if_neg hneg] at h
  by_cases hh : tmB 0 l = true
  · exact hh
  · rw [if_neg hh] at h; cases h
theorem err_sub {p q : Pol} {l l' : List Sn} (hs : l'.Sublist l) (hq : ¬ q.neg) (h : errR p l = 0) : errR q l' = 0 := by
  obtain ⟨h1, h2⟩ := err_parts h
  unfold errR; rw [if_neg hq, tmE_yes (tmB_sub l l' 0 hs h2)]
end Go.Proofs.Ytkfaoldpcgokiaa
