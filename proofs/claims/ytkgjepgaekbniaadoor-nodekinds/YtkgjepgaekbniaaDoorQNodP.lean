/- What is written is read again (nodes as bytes), in plain words. -/
import Derived.Test.YtkgjepgaekbniaaDoorQNodG
namespace Go.Proofs.YtkgjepgaekbniaaDoor
open Go.RowKit
set_option linter.unusedVariables false
set_option linter.unusedSimpArgs false

theorem vb_var (x : Nat) : vb x = varB x := rfl
theorem rNum_vb (x : Nat) (R : List UInt8) (h : x ≤ 1099511627776) : rNum ⟨vb x ++ R, 0⟩ = (x, ⟨R, 0⟩) := by
  have hu := uv_var x R (by omega)
  rw [← vb_var] at hu
  have hl : 1 ≤ (vb x).length := by unfold vb; rw [List.length_map]; exact varN_pos x
  unfold rNum
  simp only
  rw [if_neg (by simp), hu]
  simp only
  rw [if_neg (by omega)]
  simp
theorem rTake_app (a R : List UInt8) : rTake a.length ⟨a ++ R, 0⟩ = (a, ⟨R, 0⟩) := by
  unfold rTake
  simp only
  rw [if_neg (by simp), if_neg (by simp)]
  simp
theorem rText_app (a R : List UInt8) (h : a.length ≤ 1099511627776) : rText ⟨vb a.length ++ a ++ R, 0⟩ = (a, ⟨R, 0⟩) := by
  unfold rText
  rw [List.append_assoc, rNum_vb _ _ h]
  exact rTake_app a R
theorem ch32_flat : ∀ (n : Nat) (c : List (List UInt8)), (∀ x ∈ c, x.length = 32) → c.flatten.length ≤ n → ch32 n c.flatten = c
  | n, [], _, _ => ch32_nil n
  | 0, x :: r, h, hn => by
    have := h x (by simp)
    simp at hn
    have := List.length_eq_zero_iff.2 hn.1
    omega
  | n + 1, x :: r, h, hn => by
    have hx := h x (by simp)
    have hne : (x :: r).flatten ≠ [] := fun e => by
      have := congrArg List.length e
      rw [List.flatten_cons, List.length_append] at this
      simp at this
      have := List.length_eq_zero_iff.2 this.1
      omega
    rw [ch32, if_neg hne, List.flatten_cons, ← hx, List.take_left, List.drop_left, ch32_flat n r (fun y hy => h y (by simp [hy])) (by
      rw [List.flatten_cons, List.length_append] at hn; omega)]
theorem flat_32 (c : List (List UInt8)) (h : ∀ x ∈ c, x.length = 32) : c.flatten.length = c.length * 32 := by
  induction c with
  | nil => rfl
  | cons x r ih =>
    rw [List.flatten_cons, List.length_append, ih (fun y hy => h y (by simp [hy])), h x (by simp), List.length_cons]
    omega
theorem rSums_app (c : List (List UInt8)) (R : List UInt8) (h : ∀ x ∈ c, x.length = 32) (hl : c.length ≤ 1099511627776) : rSums ⟨vb c.length ++ c.flatten ++ R, 0⟩ = (c, ⟨R, 0⟩) := by
  unfold rSums
  rw [List.append_assoc, rNum_vb _ _ hl]
  simp only
  rw [← flat_32 c h, rTake_app]
  simp only
  rw [ch32_flat _ c h (Nat.le_refl _)]
theorem fit_form {n : Nd} (h : unfitN n = 0) : kindN n ≠ 0 ∧ (atN n).length ≤ 200 ∧ formN n = true := by
  obtain ⟨hk0, his⟩ := unfit_zero h
  refine ⟨hk0, isL_len his, ?_⟩
  unfold unfitN at h
  rw [if_neg hk0, if_neg (by simp [his])] at h
  split at h
  · omega
  · rename_i h9; simpa using h9
theorem rNode_tld (n : Nd) (R : List UInt8) (h : unfitN n = 0) : rNode ⟨tldN n ++ R, 0⟩ = (n, ⟨R, 0⟩) := by
  obtain ⟨hk0, hat, hf⟩ := fit_form h
  have key : ∀ (k : Nat) (a : List UInt8) (m t : Nat) (Q : List UInt8), k ≤ 3 → a.length ≤ 200 → m ≤ 511 → t ≤ 253402300799 →
      rNum ⟨headB k a m t ++ Q, 0⟩ = (k, ⟨(vb a.length ++ a) ++ (vb m ++ (vb t ++ Q)), 0⟩) ∧ rText ⟨(vb a.length ++ a) ++ (vb m ++ (vb t ++ Q)), 0⟩ = (a, ⟨vb m ++ (vb t ++ Q), 0⟩) ∧ rNum ⟨vb m ++ (vb t ++ Q), 0⟩ = (m, ⟨vb t ++ Q, 0⟩) ∧ rNum ⟨vb t ++ Q, 0⟩ = (t, ⟨Q, 0⟩) := by
    intro k a m t Q h1 h2 h3 h4
    refine ⟨?_, rText_app a _ (by omega), rNum_vb _ _ (by omega), rNum_vb _ _ (by omega)⟩
    unfold headB
    rw [show vb k ++ (vb a.length ++ a) ++ vb m ++ vb t ++ Q = vb k ++ ((vb a.length ++ a) ++ (vb m ++ (vb t ++ Q))) by simp]
    exact rNum_vb _ _ (by omega)
  cases n with
  | fol a m t =>
    simp only [formN, datedN, Bool.and_eq_true, decide_eq_true_eq] at hf
    obtain ⟨⟨⟨f1, f2⟩, f3⟩, f4⟩ := hf
    simp only [atN] at hat
    obtain ⟨k1, k2, k3, k4⟩ := key 1 a m.toNat t.toNat R (by omega) hat (by omega) (by omega)
    simp only [tldN]
    unfold rNode
    rw [k1]
    simp only
    rw [if_pos trivial, k2]
    simp only
    rw [k3]
    simp only
    rw [k4]
    simp only
    rw [Int.toNat_of_nonneg f1, Int.toNat_of_nonneg f3]
  | pla a m t s c =>
    simp only [formN, datedN, filledN, Bool.and_eq_true, decide_eq_true_eq] at hf
    obtain ⟨⟨⟨⟨f1, f2⟩, f3⟩, f4⟩, ⟨⟨⟨g1, g2⟩, g3⟩, g4⟩, g5⟩ := hf
    simp only [List.all_eq_true, decide_eq_true_eq] at g5
    simp only [atN] at hat
    obtain ⟨k1, k2, k3, k4⟩ := key 2 a m.toNat t.toNat (vb s.toNat ++ (vb c.length ++ c.flatten ++ R)) (by omega) hat (by omega) (by omega)
    have k5 := rNum_vb s.toNat (vb c.length ++ c.flatten ++ R) (by omega)
    have k6 := rSums_app c R g5 (by omega)
    have e : tldN (.pla a m t s c) ++ R = headB 2 a m.toNat t.toNat ++ (vb s.toNat ++ (vb c.length ++ c.flatten ++ R)) := by simp [tldN]
    rw [e]
    unfold rNode
    rw [k1]
    simp only
    rw [if_neg (by decide), if_pos trivial, k2]
    simp only
    rw [k3]
    simp only
    rw [k4]
    simp only
    rw [k5]
    simp only
    rw [k6]
    simp only
    rw [Int.toNat_of_nonneg f1, Int.toNat_of_nonneg f3, Int.toNat_of_nonneg g1]
  | sym a m t g =>
    simp only [formN, datedN, targN, Bool.and_eq_true, decide_eq_true_eq] at hf
    obtain ⟨⟨⟨⟨f1, f2⟩, f3⟩, f4⟩, ⟨g1, g2⟩, g3⟩ := hf
    simp only [atN] at hat
    obtain ⟨k1, k2, k3, k4⟩ := key 3 a m.toNat t.toNat (vb g.length ++ g ++ R) (by omega) hat (by omega) (by omega)
    have k5 := rText_app g R (by omega)
    have e : tldN (.sym a m t g) ++ R = headB 3 a m.toNat t.toNat ++ (vb g.length ++ g ++ R) := by simp [tldN]
    rw [e]
    unfold rNode
    rw [k1]
    simp only
    rw [if_neg (by decide), if_neg (by decide), if_pos trivial, k2]
    simp only
    rw [k3]
    simp only
    rw [k4]
    simp only
    rw [k5]
    simp only
    rw [Int.toNat_of_nonneg f1, Int.toNat_of_nonneg f3]
  | ptr => exact absurd rfl hk0
  | non => exact absurd rfl hk0
theorem rLoop_flat : ∀ (ns : List Nd) (k : Nat) (acc : List Nd) (R : List UInt8), (∀ n ∈ ns, unfitN n = 0) → ns.length < k → rLoop k (acc.length + ns.length) ⟨(ns.map tldN).flatten ++ R, 0⟩ acc = (acc ++ ns, ⟨R, 0⟩)
  | [], k, acc, R, _, hk => by
    rw [rLoop_stop _ _ _ _ (by simp)]
    simp
  | n :: r, 0, acc, R, _, hk => by simp at hk
  | n :: r, k + 1, acc, R, h, hk => by
    have hn := rNode_tld n ((r.map tldN).flatten ++ R) (h n (by simp))
    rw [rLoop, if_pos ⟨rfl, by simp⟩, List.map_cons, List.flatten_cons, List.append_assoc, hn]
    simp only
    have := rLoop_flat r k (acc ++ [n]) R (fun x hx => h x (by simp [hx])) (by simp at hk; omega)
    rw [List.length_append] at this
    simp only [List.length_cons, List.length_nil] at this ⊢
    rw [show acc.length + (r.length + 1) = acc.length + (0 + 1) + r.length by omega, this]
    simp
theorem rNodes_enc (ns : List Nd) (R : List UInt8) (h : checkN ns = 0) : rNodes ⟨encN ns ++ R, 0⟩ = (ns, rEnd ⟨R, 0⟩) := by
  obtain ⟨hl, hu⟩ := check_unfit h
  have hn : rNum ⟨encN ns ++ R, 0⟩ = (ns.length, ⟨(ns.map tldN).flatten ++ R, 0⟩) := by
    unfold encN
    rw [List.append_assoc]
    exact rNum_vb _ _ (by omega)
  have hc : rCount ⟨encN ns ++ R, 0⟩ = ⟨(ns.map tldN).flatten ++ R, 0⟩ := by
    unfold rCount
    rw [hn, if_neg (by simp only; omega)]
  unfold rNodes
  rw [hc, hn]
  simp only
  have := rLoop_flat ns 201 [] R hu (by omega)
  simp only [List.length_nil, Nat.zero_add, List.nil_append] at this
  rw [this]
/-- What is written is read again. -/
theorem dec_enc (ns : List Nd) (h : checkN ns = 0) : decN (encN ns) = (ns, 0) := by
  have := rNodes_enc ns [] h
  rw [List.append_nil] at this
  unfold decN
  rw [this]
  simp [rEnd, h]
/-- A byte more is refused. -/
theorem dec_more (ns : List Nd) (c : UInt8) (h : checkN ns = 0) : decN (encN ns ++ [c]) = ([], 3) := by
  have := rNodes_enc ns [c] h
  unfold decN
  rw [this]
  simp [rEnd, rFail]
theorem enc_inj {a b : List Nd} (ha : checkN a = 0) (hb : checkN b = 0) (h : encN a = encN b) : a = b := by
  have h1 := dec_enc a ha
  rw [h, dec_enc b hb] at h1
  exact (congrArg Prod.fst h1).symm
end Go.Proofs.YtkgjepgaekbniaaDoor
