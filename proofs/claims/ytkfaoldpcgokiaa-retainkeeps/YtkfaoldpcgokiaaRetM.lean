/- Which snapshots are kept: plain words over lists. -/
import Derived.Test.YtkfaoldpcgokiaaDayB
import Derived.Test.YtkfaoldpcgokiaaStrR
namespace Go.Proofs.Ytkfaoldpcgokiaa
open Go.RowKit
set_option linter.unusedVariables false

/-- How many unlike numbers there are. -/
def dv : List Nat → Nat
  | [] => 0
  | v :: r => if v ∈ r then dv r else dv r + 1
/-- Is the first one the last of its span, with fewer than c later spans? -/
def kS (c : Int) : List Nat → Bool
  | [] => false
  | v :: r => decide (v ∉ r) && decide ((dv r : Int) < c)
/-- The same at place i of a list. -/
def kAt (c : Int) {α : Type} (f : α → Nat) (l : List α) (i : Nat) : Bool := kS c ((l.drop i).map f)
structure Sn where
  i : List UInt8
  t : Int
  g : List UInt8
deriving Inhabited, DecidableEq
structure Pol where
  a : Int
  d : Int
  k : Int
  m : Int
  tg : List (List UInt8)
def dyN (x : Sn) : Nat := x.t.toNat / 86400
def wkN (x : Sn) : Nat := (x.t.toNat / 86400 + 3) / 7
def moF (x : Sn) : Nat := mon (x.t.toNat / 86400)
/-- Is the first one of these kept? -/
def kp (p : Pol) : List Sn → Bool
  | [] => false
  | x :: r => decide ((r.length : Int) + 1 ≤ p.a) || decide (x.g ∈ p.tg) || kS p.d ((x :: r).map dyN) || kS p.k ((x :: r).map wkN) || kS p.m ((x :: r).map moF)
def kpL (p : Pol) : List Sn → List Bool
  | [] => []
  | x :: r => kp p (x :: r) :: kpL p r
def tmB : Int → List Sn → Bool
  | _, [] => true
  | a, x :: r => decide (a ≤ x.t ∧ x.t ≤ 253402300799) && tmB x.t r
def Pol.neg (p : Pol) : Prop := p.a < 0 ∨ p.d < 0 ∨ p.k < 0 ∨ p.m < 0
instance (p : Pol) : Decidable p.neg := by unfold Pol.neg; infer_instance
def tmE (l : List Sn) : Int := if tmB 0 l = true then 0 else 4
theorem tmE_yes {l : List Sn} (h : tmB 0 l = true) : tmE l = 0 := if_pos h
theorem tmE_no {l : List Sn} (h : tmB 0 l = false) : tmE l = 4 := if_neg (by rw [h]; simp)
def errR (p : Pol) (l : List Sn) : Int := if p.neg then 1 else tmE l
theorem kpL_len (p : Pol) : ∀ l, (kpL p l).length = l.length
  | [] => rfl
  | x :: r => by simp [kpL, kpL_len p r]
theorem kpL_drop (p : Pol) : ∀ (l : List Sn) (n : Nat), kpL p (l.drop n) = (kpL p l).drop n
  | [], n => by simp [kpL]
  | x :: r, 0 => rfl
  | x :: r, n + 1 => by simp [kpL, kpL_drop p r n]
theorem kpL_at (p : Pol) : ∀ (l : List Sn) (i : Nat), i < l.length → (kpL p l)[i]? = some (kp p (l.drop i))
  | [], i, h => by simp at h
  | x :: r, 0, h => rfl
  | x :: r, i + 1, h => by
    have := kpL_at p r i (by simpa using h)
    simpa [kpL] using this
theorem dv_le : ∀ l : List Nat, dv l ≤ l.length
  | [] => Nat.le_refl _
  | v :: r => by unfold dv; split <;> have := dv_le r <;> simp <;> omega
theorem dv_cons (v : Nat) (r : List Nat) : dv r ≤ dv (v :: r) := by
  rw [dv]; split <;> omega
theorem dv_drop : ∀ (l : List Nat) (n : Nat), dv (l.drop n) ≤ dv l
  | [], n => by simp
  | v :: r, 0 => Nat.le_refl _
  | v :: r, n + 1 => Nat.le_trans (dv_drop r n) (dv_cons v r)
theorem dv_drops (l : List Nat) {i j : Nat} (h : i ≤ j) : dv (l.drop j) ≤ dv (l.drop i) := by
  have := dv_drop (l.drop i) (j - i)
  rwa [List.drop_drop, show i + (j - i) = j by omega] at this
theorem dv_filter (x : Nat) : ∀ l : List Nat, x ∈ l → dv (l.filter (fun y => decide (y ≠ x))) + 1 = dv l
  | [], h => by cases h
  | y :: r, h => by
    by_cases e : y = x
    · subst e
      rw [List.filter_cons_of_neg (by simp), dv]
      by_cases hr : y ∈ r
      · rw [if_pos hr]; exact dv_filter y r hr
      · rw [if_neg hr, List.filter_eq_self.2 (fun a ha => by simp; intro e; subst e; exact hr ha)]
    · have hx : x ∈ r := by
        rcases List.mem_cons.1 h with h | h
        · exact absurd h.symm e
        · exact h
      rw [List.filter_cons_of_pos (by simp [e]), dv, dv]
      have ih := dv_filter x r hx
      have hm : (y ∈ r.filter (fun y => decide (y ≠ x))) = (y ∈ r) := by simp [e]
      simp only [hm]
      split <;> omega
theorem dv_sub : ∀ (a b : List Nat), (∀ x ∈ a, x ∈ b) → dv a ≤ dv b
  | [], b, _ => by simp [dv]
  | x :: a, b, h => by
    rw [dv]
    split
    · exact dv_sub a b (fun y hy => h y (by simp [hy]))
    · rename_i hx
      have h1 := dv_filter x b (h x (by simp))
      have h2 := dv_sub a (b.filter (fun y => decide (y ≠ x))) (fun y hy => by
        rw [List.mem_filter]
        refine ⟨h y (by simp [hy]), ?_⟩
        simp
        intro e; subst e; exact hx hy)
      omega
/-- In a rising row a number stands again only right behind. -/
theorem rise_mem {v y : Nat} {s : List Nat} (h : (v :: y :: s).Pairwise (· ≤ ·)) : v ∈ y :: s ↔ y = v := by
  constructor
  · intro hm
    rw [List.pairwise_cons] at h
    have h1 := h.1 y (by simp)
    have h2 := h.2
    rw [List.pairwise_cons] at h2
    rcases List.mem_cons.1 hm with e | e
    · exact e.symm
    · have := h2.1 v e; omega
  · intro e; simp [e]
/-- The number that was met last. -/
def metI : List Nat → Int
  | [] => -1
  | y :: _ => (y : Int)
theorem met_iff {v : Nat} {r : List Nat} (h : (v :: r).Pairwise (· ≤ ·)) : ((v : Int) = metI r) ↔ v ∈ r := by
  cases r with
  | nil => simp [metI]
  | cons y s => rw [rise_mem h]; simp [metI]; omega
theorem tmB_all : ∀ (l : List Sn) (a : Int), tmB a l = true → (∀ x ∈ l, a ≤ x.t ∧ x.t ≤ 253402300799) ∧ l.Pairwise (fun x y => x.t ≤ y.t)
  | [], a, _ => ⟨fun x hx => (by cases hx), List.Pairwise.nil⟩
  | x :: r, a, h => by
    rw [tmB, Bool.and_eq_true, decide_eq_true_eq] at h
    obtain ⟨⟨h1, h2⟩, h3⟩ := h
    obtain ⟨h4, h5⟩ := tmB_all r x.t h3
    refine ⟨fun y hy => ?_, List.pairwise_cons.2 ⟨fun y hy => (h4 y hy).1, h5⟩⟩
    rcases List.mem_cons.1 hy with e | e
    · subst e; exact ⟨h1, h2⟩
    · have := h4 y e; omega
theorem rise_map {f : Sn → Nat} (hf : ∀ x y : Sn, x.t ≤ y.t → f x ≤ f y) {l : List Sn} (h : l.Pairwise (fun x y => x.t ≤ y.t)) : (l.map f).Pairwise (· ≤ ·) := by
  rw [List.pairwise_map]
  exact h.imp (fun {a b} hab => hf a b hab)
theorem dy_mono (x y : Sn) (h : x.t ≤ y.t) : dyN x ≤ dyN y := by
  unfold dyN; exact Nat.div_le_div_right (by omega)
theorem wk_mono (x y : Sn) (h : x.t ≤ y.t) : wkN x ≤ wkN y := by
  have := dy_mono x y h
  unfold dyN at this
  unfold wkN; exact Nat.div_le_div_right (by omega)
theorem mo_mono (x y : Sn) (h : x.t ≤ y.t) : moF x ≤ moF y := mon_mono (dy_mono x y h)
end Go.Proofs.Ytkfaoldpcgokiaa
