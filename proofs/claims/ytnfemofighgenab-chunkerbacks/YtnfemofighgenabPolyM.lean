/- The plain mathematics of polynomials over two elements, as numbers: no program. -/
import Derived.Laws.BitsAllLaws
namespace Go.Proofs.Ytnfemofighgenab
set_option linter.unusedVariables false

/-- How many bits. -/
def bl (n : Nat) : Nat := if n = 0 then 0 else n.log2 + 1
theorem bl_le (n k : Nat) : bl n ≤ k ↔ n < 2 ^ k := by
  unfold bl
  by_cases h : n = 0
  · subst h; simp; exact Nat.pow_pos (by decide)
  · rw [if_neg h, ← Nat.log2_lt h]; omega
theorem bl_lt (n k : Nat) : bl n < k + 1 ↔ n < 2 ^ k := by rw [← bl_le]; omega
theorem lt_bl (n : Nat) : n < 2 ^ bl n := (bl_le n _).1 (Nat.le_refl _)
theorem bl_zero : bl 0 = 0 := rfl
theorem bl_pos {n : Nat} : 0 < bl n ↔ n ≠ 0 := by unfold bl; split <;> simp_all
theorem bl_eq0 {n : Nat} : bl n = 0 ↔ n = 0 := by unfold bl; split <;> simp_all
theorem pow_bl {n : Nat} (h : n ≠ 0) : 2 ^ (bl n - 1) ≤ n := by
  have := bl_pos.2 h
  apply Nat.le_of_not_lt
  intro hc
  have := (bl_le n (bl n - 1)).2 hc
  omega
theorem bl_mono {a b : Nat} (h : a ≤ b) : bl a ≤ bl b := (bl_le _ _).2 (Nat.lt_of_le_of_lt h (lt_bl b))
theorem bl_self_le (n : Nat) : bl n ≤ n := (bl_le n n).2 Nat.lt_two_pow_self
theorem bl_of {n k : Nat} (h1 : 2 ^ k ≤ n) (h2 : n < 2 ^ (k + 1)) : bl n = k + 1 := by
  have a := (bl_le n (k + 1)).2 h2
  have b : ¬ bl n ≤ k := fun h => by have := (bl_le n k).1 h; omega
  omega
theorem bl_two (n : Nat) (h : n ≠ 0) (c : Nat) (hc : c < 2) : bl (2 * n + c) = bl n + 1 := by
  have a := lt_bl n
  have b := pow_bl h
  have p := bl_pos.2 h
  obtain ⟨k, hk⟩ : ∃ k, bl n = k + 1 := ⟨bl n - 1, by omega⟩
  rw [hk] at a b ⊢
  rw [Nat.add_sub_cancel] at b
  have e : 2 ^ (k + 1) = 2 * 2 ^ k := by rw [Nat.pow_succ, Nat.mul_comm]
  refine bl_of (by omega) ?_
  rw [Nat.pow_succ _ (k + 1)]; omega
theorem bl_mul_pow (n k : Nat) (h : n ≠ 0) : bl (n * 2 ^ k) = bl n + k := by
  induction k with
  | zero => simp
  | succ k ih =>
    have e : n * 2 ^ (k + 1) = 2 * (n * 2 ^ k) + 0 := by rw [Nat.pow_succ, ← Nat.mul_assoc]; omega
    rw [e, bl_two _ (Nat.mul_ne_zero h (Nat.ne_of_gt (Nat.pow_pos (by decide)))) 0 (by decide), ih]; omega
theorem bl_one : bl 1 = 1 := by decide
theorem bl_twoX : bl 2 = 2 := by decide
theorem eq_one_of_bl {n : Nat} (h : bl n = 1) : n = 1 := by
  have a := lt_bl n
  have : n ≠ 0 := fun e => by subst e; simp [bl] at h
  rw [h] at a; omega

theorem bin_ind {P : Nat → Prop} (h0 : P 0) (h : ∀ n c, c < 2 → P n → P (2 * n + c)) : ∀ n, P n := by
  intro n
  induction n using Nat.strongRecOn with
  | _ n ih =>
    by_cases hn : n = 0
    · subst hn; exact h0
    · have := h (n / 2) (n % 2) (by omega) (ih _ (by omega))
      rwa [show 2 * (n / 2) + n % 2 = n by omega] at this

theorem two_xor (a b : Nat) : 2 * (a ^^^ b) = (2 * a) ^^^ (2 * b) := by
  have e : ∀ n, 2 * n = n <<< 1 := fun n => by rw [Nat.shiftLeft_eq]; omega
  rw [e, e, e, Nat.shiftLeft_xor_distrib]
theorem xor_bit (a b c d : Nat) (hc : c < 2) (hd : d < 2) : (2 * a + c) ^^^ (2 * b + d) = 2 * (a ^^^ b) + (c ^^^ d) := by
  have e : ∀ n c : Nat, c < 2 → 2 * n + c = (2 * n) ^^^ c := by
    intro n c hc
    apply Nat.eq_of_testBit_eq
    intro i
    rw [Nat.testBit_xor]
    cases i with
    | zero => simp [Nat.testBit_zero]
    | succ i =>
      rw [Nat.testBit_succ, Nat.testBit_succ, Nat.testBit_succ]
      rw [show (2 * n + c) / 2 = n by omega, show 2 * n / 2 = n by omega, show c / 2 = 0 by omega]
      simp
  have hcd : c ^^^ d < 2 := Nat.xor_lt_two_pow (n := 1) hc hd
  rw [e a c hc, e b d hd, e _ _ hcd, two_xor]
  ac_rfl
theorem bit_xor (n c : Nat) (hc : c < 2) : 2 * n + c = (2 * n) ^^^ c := by
  have := xor_bit n 0 0 c (by decide) hc
  simpa using this.symm
theorem bl_xor_le (x y k : Nat) (hx : bl x ≤ k) (hy : bl y ≤ k) : bl (x ^^^ y) ≤ k := by
  rw [bl_le] at *
  exact Nat.xor_lt_two_pow hx hy
theorem xor_cancel (a b : Nat) : a ^^^ b ^^^ b = a := by rw [Nat.xor_assoc, Nat.xor_self, Nat.xor_zero]
theorem bl_xor_lt {x y : Nat} (h : bl y < bl x) : bl (x ^^^ y) = bl x := by
  have a := bl_xor_le x y (bl x) (Nat.le_refl _) (by omega)
  by_cases hc : bl (x ^^^ y) = bl x
  · exact hc
  · have := bl_xor_le (x ^^^ y) y (bl x - 1) (by omega) (by omega)
    rw [xor_cancel] at this; omega
/-- The highest bits fall away. -/
theorem bl_xor_top {x y : Nat} (h : bl x = bl y) (hx : x ≠ 0) : bl (x ^^^ y) < bl x := by
  have hy : y ≠ 0 := fun e => by subst e; rw [bl_zero, bl_eq0] at h; exact hx h
  have p := bl_pos.2 hx
  obtain ⟨k, hk⟩ : ∃ k, bl x = k + 1 := ⟨bl x - 1, by omega⟩
  have ax := lt_bl x
  have ay := lt_bl y
  have bx := pow_bl hx
  have cy := pow_bl hy
  rw [← h] at ay cy
  rw [hk] at *
  rw [Nat.add_sub_cancel] at bx cy
  rw [bl_lt]
  have e : ∀ n, 2 ^ k ≤ n → n < 2 ^ (k + 1) → n.testBit k = true ∧ ∀ j, k < j → n.testBit j = false := by
    intro n h1 h2
    refine ⟨?_, fun j hj => Nat.testBit_lt_two_pow (Nat.lt_of_lt_of_le h2 (Nat.pow_le_pow_right (by decide) hj))⟩
    rw [Nat.testBit_eq_decide_div_mod_eq]
    have hp : 0 < 2 ^ k := Nat.pow_pos (by decide)
    have : n / 2 ^ k = 1 := by
      apply Nat.div_eq_of_lt_le
      · omega
      · rw [Nat.pow_succ] at h2; omega
    rw [this]; rfl
  apply Nat.lt_pow_two_of_testBit
  intro i hi
  rw [Nat.testBit_xor]
  by_cases hik : i = k
  · subst hik; rw [(e x bx ax).1, (e y cy ay).1]; rfl
  · rw [(e x bx ax).2 i (by omega), (e y cy ay).2 i (by omega)]; rfl

/-- The product without carry. -/
def cmF (a : Nat) : Nat → Nat → Nat
  | 0, _ => 0
  | f + 1, b => if b = 0 then 0 else 2 * cmF a f (b / 2) ^^^ (b % 2) * a
def cm (a b : Nat) : Nat := cmF a b b
theorem cmF_fuel (a : Nat) : ∀ (f g b : Nat), b ≤ f → b ≤ g → cmF a f b = cmF a g b
  | 0, 0, b, hf, hg => rfl
  | 0, g + 1, b, hf, hg => by have : b = 0 := by omega
                              subst this; rfl
  | f + 1, 0, b, hf, hg => by have : b = 0 := by omega
                              subst this; rfl
  | f + 1, g + 1, b, hf, hg => by
    by_cases hb : b = 0
    · subst hb; rfl
    · simp only [cmF, if_neg hb]
      rw [cmF_fuel a f g (b / 2) (by omega) (by omega)]
theorem cm_zero (a : Nat) : cm a 0 = 0 := rfl
theorem cm_bit (a b c : Nat) (hc : c < 2) : cm a (2 * b + c) = 2 * cm a b ^^^ c * a := by
  by_cases h : 2 * b + c = 0
  · obtain ⟨rfl, rfl⟩ : b = 0 ∧ c = 0 := by omega
    simp [cm_zero]
  · obtain ⟨n, hn⟩ : ∃ n, 2 * b + c = n + 1 := ⟨2 * b + c - 1, by omega⟩
    unfold cm
    rw [hn]
    simp only [cmF]
    rw [if_neg (by omega), show (n + 1) / 2 = b by omega, show (n + 1) % 2 = c by omega, cmF_fuel a n b b (by omega) (Nat.le_refl _)]
theorem cm_one (a : Nat) : cm a 1 = a := by have := cm_bit a 0 1 (by decide); simpa [cm_zero] using this
theorem cm_two (a b : Nat) : cm a (2 * b) = 2 * cm a b := by have := cm_bit a b 0 (by decide); simpa using this
theorem zero_cm (b : Nat) : cm 0 b = 0 := by
  induction b using bin_ind with
  | h0 => rfl
  | h n c hc ih => rw [cm_bit _ _ _ hc, ih]; simp
theorem mul_bit_xor (a b c : Nat) (hc : c < 2) : c * (a ^^^ b) = c * a ^^^ c * b := by
  rcases (show c = 0 ∨ c = 1 by omega) with rfl | rfl <;> simp
theorem xor4 (a b c d : Nat) : (a ^^^ b) ^^^ (c ^^^ d) = (a ^^^ c) ^^^ (b ^^^ d) := by ac_rfl
theorem xor_cm (a b n : Nat) : cm (a ^^^ b) n = cm a n ^^^ cm b n := by
  induction n using bin_ind with
  | h0 => simp [cm_zero]
  | h n c hc ih => rw [cm_bit _ _ _ hc, cm_bit _ _ _ hc, cm_bit _ _ _ hc, ih, two_xor, mul_bit_xor _ _ _ hc, xor4]
theorem two_cm (a n : Nat) : cm (2 * a) n = 2 * cm a n := by
  induction n using bin_ind with
  | h0 => simp [cm_zero]
  | h n c hc ih =>
    rw [cm_bit _ _ _ hc, cm_bit _ _ _ hc, ih, two_xor]
    rw [show c * (2 * a) = 2 * (c * a) by rw [← Nat.mul_assoc, ← Nat.mul_assoc, Nat.mul_comm c 2]]
theorem one_cm (n : Nat) : cm 1 n = n := by
  induction n using bin_ind with
  | h0 => rfl
  | h n c hc ih => rw [cm_bit _ _ _ hc, ih, Nat.mul_one, ← bit_xor _ _ hc]
theorem bit_cm (a b c : Nat) (hc : c < 2) : cm (2 * a + c) b = 2 * cm a b ^^^ c * b := by
  rw [bit_xor _ _ hc, xor_cm, two_cm]
  rcases (show c = 0 ∨ c = 1 by omega) with rfl | rfl
  · simp [zero_cm]
  · simp [one_cm]
theorem cm_comm (a b : Nat) : cm a b = cm b a := by
  induction a using bin_ind with
  | h0 => rw [zero_cm, cm_zero]
  | h n c hc ih => rw [bit_cm _ _ _ hc, cm_bit _ _ _ hc, ih]
theorem cm_xor (n a b : Nat) : cm n (a ^^^ b) = cm n a ^^^ cm n b := by rw [cm_comm, xor_cm, cm_comm a, cm_comm b]
theorem cm_mul_bit (a b c : Nat) (hc : c < 2) : cm a (c * b) = c * cm a b := by
  rcases (show c = 0 ∨ c = 1 by omega) with rfl | rfl <;> simp [cm_zero]
theorem cm_assoc (a b n : Nat) : cm (cm a b) n = cm a (cm b n) := by
  induction n using bin_ind with
  | h0 => simp [cm_zero]
  | h n c hc ih => rw [cm_bit _ _ _ hc, cm_bit _ _ _ hc, ih, cm_xor, cm_two, cm_mul_bit _ _ _ hc]
theorem cm_pow (a k : Nat) : cm a (2 ^ k) = a * 2 ^ k := by
  induction k with
  | zero => simp [cm_one]
  | succ k ih => rw [show 2 ^ (k + 1) = 2 * 2 ^ k by rw [Nat.pow_succ, Nat.mul_comm], cm_two, ih, ← Nat.mul_assoc, Nat.mul_comm 2 a, Nat.mul_assoc]
theorem pow_cm (a k : Nat) : cm (2 ^ k) a = a * 2 ^ k := by rw [cm_comm, cm_pow]
theorem bl_cm (a b : Nat) (ha : a ≠ 0) : b ≠ 0 → bl (cm a b) + 1 = bl a + bl b := by
  induction b using bin_ind with
  | h0 => intro h; exact absurd rfl h
  | h n c hc ih =>
    intro hb
    by_cases hn : n = 0
    · subst hn
      obtain rfl : c = 1 := by omega
      rw [show 2 * 0 + 1 = 1 from rfl, cm_one, bl_one]
    · have ih := ih hn
      have pa := bl_pos.2 ha
      have pn := bl_pos.2 hn
      have hcm : cm a n ≠ 0 := fun e => by rw [e, bl_zero] at ih; omega
      have e2 : bl (2 * cm a n) = bl (cm a n) + 1 := by have := bl_two _ hcm 0 (by decide); simpa using this
      rw [cm_bit _ _ _ hc, bl_two _ hn _ hc]
      have hca : bl (c * a) ≤ bl a := by
        rcases (show c = 0 ∨ c = 1 by omega) with rfl | rfl
        · simp [bl_zero]
        · simp
      rw [bl_xor_lt (by omega), e2]; omega
theorem cm_ne {a b : Nat} (ha : a ≠ 0) (hb : b ≠ 0) : cm a b ≠ 0 := fun e => by
  have := bl_cm a b ha hb
  have pa := bl_pos.2 ha
  have pb := bl_pos.2 hb
  rw [e, bl_zero] at this; omega

/-- The rest of p divided by m. -/
def pmF (m : Nat) : Nat → Nat → Nat
  | 0, p => p
  | f + 1, p => if bl p < bl m then p else pmF m f (p ^^^ m * 2 ^ (bl p - bl m))
def pm (p m : Nat) : Nat := pmF m p p
/-- a and b are alike by m. -/
def Cg (m a b : Nat) : Prop := ∃ k, a ^^^ b = cm k m
theorem Cg.refl (m a : Nat) : Cg m a a := ⟨0, by rw [Nat.xor_self, zero_cm]⟩
theorem Cg.symm {m a b : Nat} (h : Cg m a b) : Cg m b a := by obtain ⟨k, h⟩ := h; exact ⟨k, by rw [Nat.xor_comm, h]⟩
theorem Cg.trans {m a b c : Nat} (h : Cg m a b) (g : Cg m b c) : Cg m a c := by
  obtain ⟨k, h⟩ := h
  obtain ⟨l, g⟩ := g
  refine ⟨k ^^^ l, ?_⟩
  rw [xor_cm, ← h, ← g, ← Nat.xor_assoc, xor_cancel]
theorem Cg.xor {m a b c d : Nat} (h : Cg m a b) (g : Cg m c d) : Cg m (a ^^^ c) (b ^^^ d) := by
  obtain ⟨k, h⟩ := h
  obtain ⟨l, g⟩ := g
  exact ⟨k ^^^ l, by rw [xor_cm, ← h, ← g, xor4]⟩
theorem Cg.cml {m a b : Nat} (h : Cg m a b) (c : Nat) : Cg m (cm a c) (cm b c) := by
  obtain ⟨k, h⟩ := h
  refine ⟨cm k c, ?_⟩
  rw [← xor_cm, h, cm_assoc, cm_assoc, cm_comm m c]
theorem Cg.cmr {m a b : Nat} (h : Cg m a b) (c : Nat) : Cg m (cm c a) (cm c b) := by rw [cm_comm c, cm_comm c]; exact h.cml c
theorem Cg.cm2 {m a b c d : Nat} (h : Cg m a b) (g : Cg m c d) : Cg m (cm a c) (cm b d) := (h.cml c).trans (g.cmr b)
theorem Cg.mult (m a k : Nat) : Cg m (a ^^^ cm k m) a := ⟨k, by rw [Nat.xor_comm a, xor_cancel]⟩
theorem Cg.uniq {m a b : Nat} (h : Cg m a b) (ha : bl a < bl m) (hb : bl b < bl m) : a = b := by
  obtain ⟨k, h⟩ := h
  have hm : m ≠ 0 := bl_pos.1 (by omega)
  by_cases hk : k = 0
  · subst hk
    rw [zero_cm] at h
    have := xor_cancel a b
    rw [h, Nat.zero_xor] at this
    exact this.symm
  · have e := bl_cm k m hk hm
    have pk := bl_pos.2 hk
    have := bl_xor_le a b (bl m - 1) (by omega) (by omega)
    rw [h] at this; omega
theorem pmF_cg (m : Nat) : ∀ (f p : Nat), Cg m (pmF m f p) p
  | 0, p => Cg.refl _ _
  | f + 1, p => by
    unfold pmF
    split
    · exact Cg.refl _ _
    · refine (pmF_cg m f _).trans ?_
      rw [← pow_cm]
      exact Cg.mult _ _ _
theorem bl_step {m p : Nat} (hm : m ≠ 0) (h : ¬ bl p < bl m) : bl (p ^^^ m * 2 ^ (bl p - bl m)) < bl p := by
  have pm := bl_pos.2 hm
  have e := bl_mul_pow m (bl p - bl m) hm
  exact bl_xor_top (by omega) (bl_pos.1 (by omega))
theorem pmF_lt (m : Nat) (hm : m ≠ 0) : ∀ (f p : Nat), bl p ≤ f → bl (pmF m f p) < bl m
  | 0, p, h => by have := bl_pos.2 hm; unfold pmF; omega
  | f + 1, p, h => by
    unfold pmF
    split
    · assumption
    · rename_i hb
      have := bl_step hm hb
      exact pmF_lt m hm f _ (by omega)
theorem pm_cg (p m : Nat) : Cg m (pm p m) p := pmF_cg m p p
theorem pm_lt (p m : Nat) (hm : m ≠ 0) : bl (pm p m) < bl m := pmF_lt m hm p p (bl_self_le p)
theorem pm_of {m a b : Nat} (h : Cg m a b) (hb : bl b < bl m) : pm a m = b :=
  ((pm_cg a m).trans h).uniq (pm_lt a m (bl_pos.1 (by omega))) hb
theorem pm_small {m a : Nat} (h : bl a < bl m) : pm a m = a := pm_of (Cg.refl _ _) h
theorem pm_eq {m a b : Nat} (h : Cg m a b) (hm : m ≠ 0) : pm a m = pm b m := pm_of (h.trans (pm_cg b m).symm) (pm_lt b m hm)
theorem pm_step {m p : Nat} (hm : m ≠ 0) (h : ¬ bl p < bl m) : pm (p ^^^ m * 2 ^ (bl p - bl m)) m = pm p m := by
  refine pm_eq ?_ hm
  rw [← pow_cm]; exact Cg.mult _ _ _
theorem cg_of_pm {m a b : Nat} (h : pm a m = pm b m) : Cg m a b := (pm_cg a m).symm.trans (h ▸ pm_cg b m)
theorem cg_zero {m a : Nat} (h : Cg m a 0) : ∃ k, a = cm k m := by obtain ⟨k, h⟩ := h; exact ⟨k, by rw [← h, Nat.xor_zero]⟩

/-- The product's rest. -/
def tm (m a b : Nat) : Nat := pm (cm a b) m
theorem tm_cg (m a b : Nat) : Cg m (tm m a b) (cm a b) := pm_cg _ _
theorem tm_lt (m a b : Nat) (hm : m ≠ 0) : bl (tm m a b) < bl m := pm_lt _ _ hm
theorem tm_comm (m a b : Nat) : tm m a b = tm m b a := by unfold tm; rw [cm_comm]
theorem tm_assoc (m a b c : Nat) (hm : m ≠ 0) : tm m (tm m a b) c = tm m a (tm m b c) := by
  refine pm_eq ?_ hm
  refine ((tm_cg m a b).cml c).trans ?_
  rw [cm_assoc]
  exact (tm_cg m b c).symm.cmr a
theorem tm_xor (m a b c : Nat) (hm : m ≠ 0) : tm m a (b ^^^ c) = tm m a b ^^^ tm m a c := by
  refine pm_of ?_ ?_
  · rw [cm_xor]; exact (tm_cg m a b).symm.xor (tm_cg m a c).symm
  · have h1 := tm_lt m a b hm
    have h2 := tm_lt m a c hm
    have := bl_xor_le (tm m a b) (tm m a c) (bl m - 1) (by omega) (by omega)
    omega
theorem xor_tm (m a b c : Nat) (hm : m ≠ 0) : tm m (b ^^^ c) a = tm m b a ^^^ tm m c a := by
  rw [tm_comm, tm_xor _ _ _ _ hm, tm_comm m a b, tm_comm m a c]
theorem tm_pm (m a b : Nat) (hm : m ≠ 0) : tm m (pm a m) b = tm m a b := pm_eq ((pm_cg a m).cml b) hm
theorem tm_one (m a : Nat) : tm m a 1 = pm a m := by unfold tm; rw [cm_one]
theorem tm_zero (m a : Nat) : tm m a 0 = 0 := by
  unfold tm; rw [cm_zero]; rfl
theorem pm_pm (m a : Nat) (hm : m ≠ 0) : pm (pm a m) m = pm a m := pm_small (pm_lt a m hm)

/-- The power's rest. -/
def pw (m a : Nat) : Nat → Nat
  | 0 => 1
  | n + 1 => tm m (pw m a n) a
theorem pw_lt (m a n : Nat) (hm : 2 ≤ bl m) : bl (pw m a n) < bl m := by
  cases n with
  | zero => simp [pw, bl_one]; omega
  | succ n => exact tm_lt _ _ _ (bl_pos.1 (by omega))
theorem pw_add (m a i j : Nat) (hm : 2 ≤ bl m) : pw m a (i + j) = tm m (pw m a i) (pw m a j) := by
  have h0 : m ≠ 0 := bl_pos.1 (by omega)
  induction j with
  | zero => rw [Nat.add_zero, pw, tm_one, pm_small (pw_lt m a i hm)]
  | succ j ih => rw [← Nat.add_assoc, pw, ih, pw, tm_assoc _ _ _ _ h0]
theorem pw_one (m a : Nat) : pw m a 1 = pm a m := by
  unfold pw pw; rw [tm_comm, tm_one]
theorem pw_pm (m a n : Nat) (hm : m ≠ 0) : pw m (pm a m) n = pw m a n := by
  induction n with
  | zero => rfl
  | succ n ih => rw [pw, pw, ih, tm_comm, tm_pm _ _ _ hm, tm_comm]
theorem pw_mul (m a b n : Nat) (hm : 2 ≤ bl m) : pw m (tm m a b) n = tm m (pw m a n) (pw m b n) := by
  have h0 : m ≠ 0 := bl_pos.1 (by omega)
  induction n with
  | zero => rw [pw, pw, pw, tm_one, pm_small (by rw [bl_one]; omega)]
  | succ n ih =>
    rw [pw, pw, pw, ih, tm_assoc _ _ _ _ h0, tm_assoc _ _ _ _ h0]
    congr 1
    rw [← tm_assoc _ _ _ _ h0, ← tm_assoc _ _ _ _ h0, tm_comm m (pw m b n) a]
theorem pw_sq (m a n : Nat) (hm : 2 ≤ bl m) : pw m (tm m a a) n = pw m a (2 * n) := by
  rw [pw_mul _ _ _ _ hm, ← pw_add _ _ _ _ hm]; congr 1; omega
theorem pw_one_base (m n : Nat) (hm : 2 ≤ bl m) : pw m 1 n = 1 := by
  induction n with
  | zero => rfl
  | succ n ih => rw [pw, ih, tm_one, pm_small (by rw [bl_one]; omega)]

/-- A rest times x, and a bit. -/
def sh (m p b : Nat) : Nat := if 2 ^ (bl m - 1) ≤ 2 * p + b then (2 * p + b) ^^^ m else 2 * p + b
theorem sh_pm (m p b : Nat) (hb : b < 2) (hm : 2 ≤ bl m) (hp : bl p < bl m) : sh m p b = pm (2 * p + b) m := by
  have h2 : 2 * p + b < 2 ^ bl m := by
    have := (bl_le p (bl m - 1)).1 (by omega)
    have e : 2 ^ bl m = 2 * 2 ^ (bl m - 1) := by rw [← Nat.pow_succ']; congr 1; omega
    omega
  unfold sh
  split
  · rename_i h
    have e : bl (2 * p + b) = bl m := by
      have := bl_of h (by rwa [show bl m - 1 + 1 = bl m by omega]); omega
    have hlt := bl_xor_top e (bl_pos.1 (by omega))
    refine (pm_of ?_ (by omega)).symm
    refine Cg.symm ?_
    have := Cg.mult m (2 * p + b) 1
    rwa [one_cm] at this
  · rename_i h
    refine (pm_small ?_).symm
    have := (bl_le (2 * p + b) (bl m - 1)).2 (by omega)
    omega
theorem sh_cg (m p b : Nat) (hb : b < 2) (hm : 2 ≤ bl m) (hp : bl p < bl m) : Cg m (sh m p b) (2 * p + b) := by
  rw [sh_pm m p b hb hm hp]; exact pm_cg _ _
/-- Numbers that are alike stay so, when a bit is put behind them. -/
theorem Cg.bit {m a b : Nat} (h : Cg m a b) (c : Nat) (hc : c < 2) : Cg m (2 * a + c) (2 * b + c) := by
  rw [bit_xor a _ hc, bit_xor b _ hc]
  refine Cg.xor ?_ (Cg.refl _ _)
  have := h.cmr 2
  rw [show (2 : Nat) = 2 * 1 from rfl, two_cm, two_cm, one_cm, one_cm] at this
  exact this
end Go.Proofs.Ytnfemofighgenab
