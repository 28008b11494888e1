/- A prime polynomial passes the test for primes: no program. -/
import Derived.Test.YtnfemofighgenaaPolyG
namespace Go.Proofs.Ytnfemofighgenaa
set_option linter.unusedVariables false

theorem sq_xor (m a b : Nat) (hm : m ≠ 0) : tm m (a ^^^ b) (a ^^^ b) = tm m a a ^^^ tm m b b := by
  rw [tm_xor _ _ _ _ hm, xor_tm _ _ _ _ hm, xor_tm _ _ _ _ hm, tm_comm m b a]
  have : ∀ x y z : Nat, x ^^^ y ^^^ (y ^^^ z) = x ^^^ z := by
    intro x y z
    rw [Nat.xor_assoc, ← Nat.xor_assoc y, Nat.xor_self, Nat.zero_xor]
  exact this _ _ _
theorem frob (m : Nat) (hm : 2 ≤ bl m) : ∀ (i a b : Nat), pw m (a ^^^ b) (2 ^ i) = pw m a (2 ^ i) ^^^ pw m b (2 ^ i)
  | 0, a, b => by
    have h0 : m ≠ 0 := bl_pos.1 (by omega)
    rw [Nat.pow_zero, pw_one, pw_one, pw_one, ← tm_one, xor_tm _ _ _ _ h0, tm_one, tm_one]
  | i + 1, a, b => by
    have h0 : m ≠ 0 := bl_pos.1 (by omega)
    rw [show 2 ^ (i + 1) = 2 * 2 ^ i by rw [Nat.pow_succ, Nat.mul_comm], ← pw_sq _ _ _ hm, ← pw_sq _ _ _ hm, ← pw_sq _ _ _ hm, sq_xor _ _ _ h0, frob m hm i]
theorem fixed_all {m i : Nat} (hm : 2 ≤ bl m) (h : pw m 2 (2 ^ i) = pm 2 m) (f : Nat) : pw m f (2 ^ i) = pm f m := by
  have h0 : m ≠ 0 := bl_pos.1 (by omega)
  have z : pw m 0 (2 ^ i) = pm 0 m := by
    have : 0 < 2 ^ i := Nat.pow_pos (by decide)
    rw [show 2 ^ i = 2 ^ i - 1 + 1 by omega, pw, tm_zero, pm_small (by rw [bl_zero]; omega)]
  induction f using bin_ind with
  | h0 => exact z
  | h n c hc ih =>
    have e1 : pw m c (2 ^ i) = pm c m := by
      rcases (show c = 0 ∨ c = 1 by omega) with rfl | rfl
      · exact z
      · rw [pw_one_base _ _ hm, pm_small (by rw [bl_one]; omega)]
    have e2 : pw m (2 * n) (2 ^ i) = pm (2 * n) m := by
      have t : tm m 2 n = pm (2 * n) m := by
        unfold tm
        rw [show cm 2 n = 2 * n by have := two_cm 1 n; rwa [one_cm, Nat.mul_one] at this]
      rw [← pw_pm m (2 * n) _ h0, ← t, pw_mul _ _ _ _ hm, h, ih, tm_pm _ _ _ h0, tm_comm, tm_pm _ _ _ h0, tm_comm]
    rw [bit_xor _ _ hc, frob m hm, e1, e2, ← tm_one m (2 * n ^^^ c), xor_tm _ _ _ _ h0, tm_one, tm_one]

/-- The worth of a polynomial whose coefficients are rests, the lowest first. -/
def evK (m : Nat) : List Nat → Nat → Nat
  | [], _ => 0
  | c :: cs, y => c ^^^ tm m y (evK m cs y)
def qK (m r : Nat) : List Nat → List Nat
  | [] => []
  | [_] => []
  | _ :: c :: cs => evK m (c :: cs) r :: qK m r (c :: cs)
theorem evK_lt {m : Nat} (hm : 2 ≤ bl m) (y : Nat) : ∀ cs : List Nat, (∀ c ∈ cs, bl c < bl m) → bl (evK m cs y) < bl m
  | [], _ => by simp [evK, bl_zero]; omega
  | c :: cs, h => by
    have a := h c (by simp)
    have b := tm_lt m y (evK m cs y) (bl_pos.1 (by omega))
    have := bl_xor_le c (tm m y (evK m cs y)) (bl m - 1) (by omega) (by omega)
    unfold evK; omega
theorem qK_lt {m : Nat} (hm : 2 ≤ bl m) (r : Nat) : ∀ cs : List Nat, (∀ c ∈ cs, bl c < bl m) → ∀ c ∈ qK m r cs, bl c < bl m
  | [], _, c, h => by simp [qK] at h
  | [_], _, c, h => by simp [qK] at h
  | a :: b :: cs, hc, c, h => by
    have hb : ∀ c ∈ b :: cs, bl c < bl m := fun c h => hc c (List.mem_cons_of_mem a h)
    simp only [qK, List.mem_cons] at h
    rcases h with rfl | h
    · exact evK_lt hm r _ hb
    · exact qK_lt hm r _ hb c h
theorem qK_len (m r : Nat) : ∀ cs : List Nat, (qK m r cs).length = cs.length - 1
  | [] => rfl
  | [_] => rfl
  | a :: b :: cs => by
    have := qK_len m r (b :: cs)
    simp only [qK, List.length_cons, this]; omega
theorem qK_last (m r : Nat) (hm : 2 ≤ bl m) : ∀ cs : List Nat, 2 ≤ cs.length → cs.getLast? = some 1 → (qK m r cs).getLast? = some 1
  | [], h, _ => by simp at h
  | [_], h, _ => by simp at h
  | [a, b], h, e => by
    simp at e
    subst e
    simp [qK, evK, tm_zero]
  | a :: b :: c :: cs, h, e => by
    have ih := qK_last m r hm (b :: c :: cs) (by simp) (by simpa using e)
    rw [qK, List.getLast?_cons_of_ne_nil]
    · exact ih
    · simp [qK]
theorem evK_div (m y r : Nat) (hm : m ≠ 0) : ∀ cs : List Nat, evK m cs y ^^^ evK m cs r = tm m (y ^^^ r) (evK m (qK m r cs) y)
  | [] => by simp [evK, qK, tm_zero]
  | [c] => by simp [evK, qK, tm_zero]
  | a :: b :: cs => by
    have ih := evK_div m y r hm (b :: cs)
    have e1 : evK m (a :: b :: cs) y = a ^^^ tm m y (evK m (b :: cs) y) := rfl
    have e2 : evK m (a :: b :: cs) r = a ^^^ tm m r (evK m (b :: cs) r) := rfl
    have e3 : evK m (qK m r (a :: b :: cs)) y = evK m (b :: cs) r ^^^ tm m y (evK m (qK m r (b :: cs)) y) := rfl
    rw [e1, e2, e3]
    generalize evK m (b :: cs) y = E at *
    generalize evK m (b :: cs) r = F at *
    generalize evK m (qK m r (b :: cs)) y = Q at *
    have s : tm m (y ^^^ r) (tm m y Q) = tm m y (tm m (y ^^^ r) Q) := by rw [← tm_assoc _ _ _ _ hm, tm_comm m (y ^^^ r) y, tm_assoc _ _ _ _ hm]
    rw [tm_xor _ _ _ _ hm, s, ← ih, tm_xor _ _ _ _ hm, xor_tm _ _ _ _ hm]
    have : ∀ a b c d : Nat, a ^^^ b ^^^ (a ^^^ c) = d ^^^ c ^^^ (b ^^^ d) := by
      intro a b c d
      rw [Nat.xor_comm a b, Nat.xor_assoc b, ← Nat.xor_assoc a a, Nat.xor_self, Nat.zero_xor, Nat.xor_comm d c, Nat.xor_comm b d, Nat.xor_assoc c, ← Nat.xor_assoc d d, Nat.xor_self, Nat.zero_xor, Nat.xor_comm]
    exact this _ _ _ _
theorem roots_few {m : Nat} (h : Irr m) : ∀ (l cs : List Nat), l.Nodup → (∀ x ∈ l, bl x < bl m) → (∀ c ∈ cs, bl c < bl m) → cs.getLast? = some 1 → (∀ x ∈ l, evK m cs x = 0) → l.length < cs.length
  | [], cs, _, _, _, hl, _ => by cases cs <;> simp at hl ⊢
  | r :: t, cs, hn, hb, hc, hl, hz => by
    have hm := h.ne
    have h2 := h.1
    have hr := hz r (by simp)
    rw [List.nodup_cons] at hn
    by_cases h1 : 2 ≤ cs.length
    · have ih := roots_few h t (qK m r cs) hn.2 (fun x hx => hb x (by simp [hx])) (qK_lt h2 r cs hc) (qK_last m r h2 cs h1 hl) (fun x hx => ?_)
      · rw [qK_len] at ih
        simp only [List.length_cons]; omega
      · have hx0 := hz x (by simp [hx])
        have hxr : x ≠ r := fun e => by subst e; exact hn.1 hx
        have e := evK_div m x r hm cs
        rw [hx0, hr, Nat.xor_self] at e
        have hlx := hb x (by simp [hx])
        have hlr := hb r (by simp)
        have hd : bl (x ^^^ r) < bl m := by have := bl_xor_le x r (bl m - 1) (by omega) (by omega); omega
        have hne : x ^^^ r ≠ 0 := fun e0 => hxr (by have := xor_cancel x r; rw [e0, Nat.zero_xor] at this; exact this.symm)
        apply Classical.byContradiction
        intro hq
        exact h.tm_ne hne hd (evK_lt h2 x _ (qK_lt h2 r cs hc)) hq e.symm
    · obtain ⟨c, rfl⟩ : ∃ c, cs = [c] := by
        match cs, h1, hl with
        | [], _, hl => simp at hl
        | [c], _, _ => exact ⟨c, rfl⟩
        | _ :: _ :: _, h1, _ => simp at h1
      simp at hl
      subst hl
      simp [evK, tm_zero] at hr
theorem evK_pow (m y : Nat) : ∀ k, evK m (List.replicate k 0 ++ [1]) y = pw m y k
  | 0 => by simp [evK, pw, tm_zero]
  | k + 1 => by
    rw [List.replicate_succ, List.cons_append, evK, evK_pow m y k, Nat.zero_xor, pw, tm_comm]
theorem no_fixed {m i : Nat} (h : Irr m) (h1 : 1 ≤ i) (hi : i < bl m - 1) : pw m 2 (2 ^ i) ≠ pm 2 m := by
  intro e
  have hm := h.ne
  have h2 := h.1
  have N2 : 2 ^ 1 ≤ 2 ^ i := Nat.pow_le_pow_right (by decide) h1
  obtain ⟨k, hk⟩ : ∃ k, 2 ^ i = k + 2 := ⟨2 ^ i - 2, by omega⟩
  have := roots_few h (List.range (2 ^ (bl m - 1))) (0 :: 1 :: (List.replicate k 0 ++ [1])) List.nodup_range (fun x hx => ?_) (fun c hc => ?_) (by rw [← List.cons_append, ← List.cons_append, List.getLast?_append]; rfl) (fun x hx => ?_)
  · simp only [List.length_range, List.length_cons, List.length_append, List.length_replicate, List.length_nil] at this
    have hp : 2 ^ (i + 1) ≤ 2 ^ (bl m - 1) := Nat.pow_le_pow_right (by decide) (by omega)
    rw [Nat.pow_succ] at hp
    omega
  · have := (bl_le x (bl m - 1)).2 (List.mem_range.1 hx); omega
  · have : c = 0 ∨ c = 1 := by
      simp only [List.mem_cons, List.mem_append, List.mem_replicate, List.not_mem_nil, or_false] at hc
      omega
    rcases this with rfl | rfl
    · rw [bl_zero]; omega
    · rw [bl_one]; omega
  · have hx : bl x < bl m := by have := (bl_le x (bl m - 1)).2 (List.mem_range.1 hx); omega
    have f := fixed_all h2 e x
    rw [hk, pm_small hx] at f
    rw [evK, evK, evK_pow, Nat.zero_xor, tm_xor _ _ _ _ hm, tm_one, pm_small hx]
    have : tm m x (tm m x (pw m x k)) = pw m x (k + 2) := by
      rw [pw, pw, tm_comm m x (tm m x (pw m x k)), tm_comm m x (pw m x k)]
    rw [this, f, Nat.xor_self]
theorem irr_prB {p : Nat} (h : Irr p) (h63 : bl p ≤ 63) : prB p = true := by
  rw [prB_iff]
  refine ⟨h.1, h63, fun i h0 hi => ?_⟩
  obtain ⟨d1, d2⟩ := gc_dv p (pw p 2 (2 ^ i) ^^^ 2)
  rcases h.2 _ d1 with e | e
  · exact e
  · rw [e] at d2
    have hx : bl 2 < bl p := by rw [bl_twoX]; omega
    have := Cg.uniq (dv_cg d2) (pw_lt p 2 _ h.1) hx
    exact absurd (by rw [this, pm_small hx]) (no_fixed h h0 (by omega))
theorem prB_eq (p : Nat) (h63 : bl p ≤ 63) : prB p = true ↔ Irr p := ⟨prB_irr, fun h => irr_prB h h63⟩
/-- Prime by trying all. -/
theorem irr_try (p : Nat) (h2 : 2 ≤ bl p) : Irr p ↔ ∀ d, 2 ≤ d → 2 * (bl d - 1) ≤ bl p - 1 → ¬ Dv d p := by
  have hp : p ≠ 0 := bl_pos.1 (by omega)
  constructor
  · intro h d hd hl hv
    rcases h.2 d hv with e | e
    · omega
    · subst e; omega
  · intro h
    refine ⟨h2, fun d hd => ?_⟩
    apply Classical.byContradiction
    intro hc
    obtain ⟨k, e, k2, d2, s⟩ := hd.less hp (fun e => hc (Or.inl e)) (fun e => hc (Or.inr e))
    have ge2 : ∀ n, 2 ≤ bl n → 2 ≤ n := fun n hn => by
      have := bl_self_le n; omega
    by_cases hh : bl d ≤ bl k
    · exact h d (ge2 d d2) (by omega) hd
    · exact h k (ge2 k k2) (by omega) ⟨d, by rw [cm_comm]; exact e⟩
end Go.Proofs.Ytnfemofighgenaa
