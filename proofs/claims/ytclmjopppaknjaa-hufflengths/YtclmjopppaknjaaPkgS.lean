/- What the document tries of few counts, and that it finds what the package-merge way costs: plain mathematics. -/
import Derived.Test.YtclmjopppaknjaaPkgL
namespace Go.Proofs.Ytclmjopppaknjaa
open Go.RowKit
set_option linter.unusedVariables false

def bup (b : Int) (c : Nat) (r : Int) : Int := if 0 ≤ r ∧ (b < 0 ∨ (c : Int) + r < b) then (c : Int) + r else b
/-- The best of the first k + 1 tries. -/
def bst (rest : Nat → Int) (l : List Nat) (len : Nat) : Nat → Int
  | 0 => bup (-1) 0 (rest 0)
  | k + 1 => bup (bst rest l len k) (preN l (k + 1) * len) (rest (k + 1))
/-- The document's least, with f lengths left. -/
def lst (most : Nat) : Nat → List Nat → Nat → Int
  | 0, l, room => if l.length = 0 ∧ room = 0 then 0 else -1
  | f + 1, l, room => if l.length = 0 then (if room = 0 then 0 else -1) else if room = 0 ∨ 2 * l.length < room then -1 else bst (fun k => lst most f (l.drop k) (2 * (room - k))) l (most - f) (min l.length room)
theorem bst_some (rest : Nat → Int) (l : List Nat) (len : Nat) : ∀ K, 0 ≤ bst rest l len K → ∃ k, k ≤ K ∧ 0 ≤ rest k ∧ bst rest l len K = ((preN l k * len : Nat) : Int) + rest k
  | 0, h => by
    rw [bst, bup] at h ⊢
    split at h
    · rename_i q
      exact ⟨0, Nat.le_refl _, q.1, by rw [if_pos q, preN_zero, Nat.zero_mul]⟩
    · omega
  | K + 1, h => by
    have ih := bst_some rest l len K
    rw [bst, bup] at h ⊢
    split at h
    · rename_i q
      exact ⟨K + 1, Nat.le_refl _, q.1, by rw [if_pos q]⟩
    · rename_i q
      rw [if_neg q]
      obtain ⟨k, h1, h2, h3⟩ := ih h
      exact ⟨k, by omega, h2, h3⟩
theorem bst_le (rest : Nat → Int) (l : List Nat) (len : Nat) : ∀ K k, k ≤ K → 0 ≤ rest k → 0 ≤ bst rest l len K ∧ bst rest l len K ≤ ((preN l k * len : Nat) : Int) + rest k
  | 0, k, hk, h => by
    have : k = 0 := by omega
    subst this
    rw [bst, bup, if_pos ⟨h, .inl (by omega)⟩, preN_zero, Nat.zero_mul]
    omega
  | K + 1, k, hk, h => by
    rw [bst, bup]
    by_cases e : k = K + 1
    · subst e
      split
      · omega
      · rename_i q
        have : ¬ (bst rest l len K < 0 ∨ ((preN l (K + 1) * len : Nat) : Int) + rest (K + 1) < bst rest l len K) := fun z => q ⟨h, z⟩
        omega
    · have ih := bst_le rest l len K k (by omega) h
      split
      · rename_i q
        rcases q with ⟨q1, q2 | q2⟩
        · omega
        · omega
      · exact ih
/-- Products, summed. -/
def dot (l r : List Nat) : Nat := (List.zipWith (fun a b => a * b) l r).sum
theorem dot_split : ∀ (k len : Nat) (l r : List Nat), k ≤ l.length → dot l (List.replicate k len ++ r) = preN l k * len + dot (l.drop k) r
  | 0, len, l, r, _ => by simp [preN]
  | k + 1, len, [], r, h => by simp at h
  | k + 1, len, a :: l, r, h => by
    have ih := dot_split k len l r (by simpa using h)
    unfold dot at ih ⊢
    rw [List.replicate_succ, List.cons_append, List.zipWith_cons_cons, List.sum_cons, ih, preN_cons, Nat.add_mul, List.drop_succ_cons]; omega
/-- Lengths from len to most, rising, whose parts come to so much room. -/
structure Asn (most len : Nat) (n : Nat) (lens : List Nat) (room : Nat) : Prop where
  size : lens.length = n
  rise : Rising lens
  lo : ∀ x ∈ lens, len ≤ x
  hi : ∀ x ∈ lens, x ≤ most
  sum : (lens.map fun x => 2 ^ (most - x)).sum = room * 2 ^ (most - len)
theorem rising_rep {len : Nat} {r : List Nat} (hr : Rising r) (hlo : ∀ x ∈ r, len ≤ x) : ∀ k, Rising (List.replicate k len ++ r)
  | 0 => by simpa using hr
  | k + 1 => by
    rw [List.replicate_succ, List.cons_append]
    refine ⟨fun v hv => ?_, rising_rep hr hlo k⟩
    rcases List.mem_append.1 hv with h | h
    · rw [(List.mem_replicate.1 h).2]; exact Nat.le_refl _
    · exact hlo v h
theorem lst_sound (most : Nat) : ∀ f, f ≤ most → ∀ l room, 0 ≤ lst most f l room → ∃ lens, Asn most (most + 1 - f) l.length lens room ∧ lst most f l room = (dot l lens : Int)
  | 0, _, l, room, h => by
    rw [lst] at h ⊢
    split at h
    · rename_i q
      rw [if_pos q]
      have hl : l = [] := List.eq_nil_of_length_eq_zero q.1
      subst hl
      exact ⟨[], ⟨rfl, trivial, by simp, by simp, by rw [q.2]; simp⟩, by simp [dot]⟩
    · omega
  | f + 1, hf, l, room, h => by
    have ih := lst_sound most f (by omega)
    rw [lst] at h ⊢
    by_cases hl : l.length = 0
    · rw [if_pos hl] at h ⊢
      have hl' : l = [] := List.eq_nil_of_length_eq_zero hl
      subst hl'
      by_cases hr : room = 0
      · rw [if_pos hr]
        exact ⟨[], ⟨rfl, trivial, by simp, by simp, by rw [hr]; simp⟩, by simp [dot]⟩
      · rw [if_neg hr] at h; omega
    · rw [if_neg hl] at h ⊢
      by_cases hq : room = 0 ∨ 2 * l.length < room
      · rw [if_pos hq] at h; omega
      · rw [if_neg hq] at h ⊢
        obtain ⟨k, hk, hr, he⟩ := bst_some _ _ _ _ h
        obtain ⟨lens, ⟨a1, a2, a3, a4, a5⟩, e2⟩ := ih _ _ hr
        rw [List.length_drop] at a1
        have hlen : most + 1 - (f + 1) = most - f := by omega
        rw [hlen]
        refine ⟨List.replicate k (most - f) ++ lens, ⟨by simp; omega, rising_rep a2 (fun x hx => by have := a3 x hx; omega) k, fun x hx => ?_, fun x hx => ?_, ?_⟩, ?_⟩
        · rcases List.mem_append.1 hx with q | q
          · rw [(List.mem_replicate.1 q).2]; exact Nat.le_refl _
          · have := a3 x q; omega
        · rcases List.mem_append.1 hx with q | q
          · rw [(List.mem_replicate.1 q).2]; omega
          · exact a4 x q
        · rw [List.map_append, List.sum_append, a5, List.map_replicate, List.sum_replicate_nat, show most - (most - f) = f by omega]
          cases f with
          | zero =>
            have hnil : lens = [] := by
              cases lens with
              | nil => rfl
              | cons x r => have := a3 x (by simp); have := a4 x (by simp); omega
            subst hnil
            simp at a5
            have : room ≤ k := by omega
            rw [show most + 1 - 0 = most + 1 by omega]
            simp
            omega
          | succ f =>
            rw [show most - (most + 1 - (f + 1)) = f by omega, Nat.pow_succ]
            obtain ⟨d, hd⟩ : ∃ d, room = k + d := ⟨room - k, by omega⟩
            rw [hd, Nat.add_sub_cancel_left, Nat.add_mul]
            congr 1
            rw [Nat.mul_comm 2 d, Nat.mul_assoc, Nat.mul_comm 2]
        · rw [he, e2, dot_split _ _ _ _ (by omega)]
          omega
theorem split_lens (len : Nat) : ∀ lens : List Nat, Rising lens → (∀ x ∈ lens, len ≤ x) → ∃ k r, lens = List.replicate k len ++ r ∧ Rising r ∧ ∀ x ∈ r, len + 1 ≤ x
  | [], _, _ => ⟨0, [], rfl, trivial, by simp⟩
  | a :: l, hR, hlo => by
    by_cases e : a = len
    · obtain ⟨k, r, h1, h2, h3⟩ := split_lens len l hR.2 (fun x hx => hlo x (by simp [hx]))
      exact ⟨k + 1, r, by rw [List.replicate_succ, List.cons_append, ← h1, e], h2, h3⟩
    · have ha := hlo a (by simp)
      refine ⟨0, a :: l, rfl, hR, fun x hx => ?_⟩
      have := hR.cons_le x hx
      omega
theorem parts_le {most len : Nat} : ∀ lens : List Nat, (∀ x ∈ lens, len ≤ x) → (lens.map fun x => 2 ^ (most - x)).sum ≤ lens.length * 2 ^ (most - len)
  | [], _ => by simp
  | a :: l, h => by
    have ih := parts_le (most := most) l (fun x hx => h x (by simp [hx]))
    have ha : 2 ^ (most - a) ≤ 2 ^ (most - len) := Nat.pow_le_pow_right (by decide) (by have := h a (by simp); omega)
    rw [List.map_cons, List.sum_cons, List.length_cons, Nat.succ_mul]; omega
theorem lst_best (most : Nat) : ∀ f, f ≤ most → ∀ l room lens, Asn most (most + 1 - f) l.length lens room → 0 ≤ lst most f l room ∧ lst most f l room ≤ (dot l lens : Int)
  | 0, _, l, room, lens, h => by
    have hnil : lens = [] := by
      cases lens with
      | nil => rfl
      | cons x r => have := h.lo x (by simp); have := h.hi x (by simp); omega
    subst hnil
    have hl : l.length = 0 := h.size.symm
    have hr : room = 0 := by
      have := h.sum
      rw [show most - (most + 1 - 0) = 0 by omega] at this
      simp at this; omega
    rw [lst, if_pos ⟨hl, hr⟩]
    omega
  | f + 1, hf, l, room, lens, h => by
    have hlen : most + 1 - (f + 1) = most - f := by omega
    rw [hlen] at h
    have hff : most - (most - f) = f := by omega
    have hs := h.sum
    rw [hff] at hs
    have hp : 0 < 2 ^ f := Nat.two_pow_pos f
    rw [lst]
    by_cases hl : l.length = 0
    · rw [if_pos hl]
      have hnil : lens = [] := List.eq_nil_of_length_eq_zero (by rw [h.size, hl])
      subst hnil
      have hr : room = 0 := by
        rcases Nat.mul_eq_zero.1 hs.symm with q | q
        · exact q
        · omega
      rw [if_pos hr]; omega
    · rw [if_neg hl]
      have hle := parts_le (most := most) lens h.lo
      rw [hs, hff, h.size] at hle
      have hrl : room ≤ l.length := Nat.le_of_mul_le_mul_right hle hp
      have hr0 : room ≠ 0 := fun e => by
        subst e
        rw [Nat.zero_mul] at hs
        cases lens with
        | nil => have := h.size; simp at this; omega
        | cons x r =>
          rw [List.map_cons, List.sum_cons] at hs
          have : 0 < 2 ^ (most - x) := Nat.two_pow_pos _
          omega
      rw [if_neg (by omega)]
      obtain ⟨k, r, e, hR, hlo⟩ := split_lens (most - f) lens h.rise h.lo
      subst e
      have hsz := h.size
      rw [List.length_append, List.length_replicate] at hsz
      rw [List.map_append, List.sum_append, List.map_replicate, List.sum_replicate_nat, hff] at hs
      have hkr : k ≤ room := Nat.le_of_mul_le_mul_right (show k * 2 ^ f ≤ room * 2 ^ f by omega) hp
      obtain ⟨d, hd⟩ : ∃ d, room = k + d := ⟨room - k, by omega⟩
      have hrs : (r.map fun x => 2 ^ (most - x)).sum = d * 2 ^ f := by rw [hd, Nat.add_mul] at hs; omega
      have hA : Asn most (most + 1 - f) (l.drop k).length r (2 * (room - k)) := by
        refine ⟨by rw [List.length_drop]; omega, hR, fun x hx => by have := hlo x hx; omega, fun x hx => h.hi x (by simp [hx]), ?_⟩
        rw [hrs, hd, Nat.add_sub_cancel_left]
        cases f with
        | zero =>
          have hnil : r = [] := by
            cases r with
            | nil => rfl
            | cons x r' => have := hlo x (by simp); have := h.hi x (by simp); omega
          subst hnil
          simp at hrs
          rw [← hrs]; simp
        | succ f =>
          rw [show most - (most + 1 - (f + 1)) = f by omega, Nat.pow_succ, Nat.mul_comm (2 ^ f) 2, ← Nat.mul_assoc, Nat.mul_comm d 2]
      have ih := lst_best most f (by omega) _ _ _ hA
      have hb := bst_le (fun k => lst most f (l.drop k) (2 * (room - k))) l (most - f) (min l.length room) k (by omega) ih.1
      refine ⟨hb.1, ?_⟩
      rw [dot_split _ _ _ _ (by omega)]
      have h2 := hb.2
      omega
end Go.Proofs.Ytclmjopppaknjaa
