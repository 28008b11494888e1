/- Common divisors, prime polynomials and Fermat's little theorem by them: no program. -/
import Derived.Test.YtnfemofighgenabPolyM
namespace Go.Proofs.Ytnfemofighgenab
set_option linter.unusedVariables false

/-- d divides p. -/
def Dv (d p : Nat) : Prop := ∃ k, p = cm k d
theorem Dv.refl (d : Nat) : Dv d d := ⟨1, (one_cm d).symm⟩
theorem Dv.zero (d : Nat) : Dv d 0 := ⟨0, (zero_cm d).symm⟩
theorem Dv.trans {a b c : Nat} (h : Dv a b) (g : Dv b c) : Dv a c := by
  obtain ⟨k, rfl⟩ := h
  obtain ⟨l, rfl⟩ := g
  exact ⟨cm l k, by rw [cm_assoc]⟩
theorem Dv.xor {d a b : Nat} (h : Dv d a) (g : Dv d b) : Dv d (a ^^^ b) := by
  obtain ⟨k, rfl⟩ := h
  obtain ⟨l, rfl⟩ := g
  exact ⟨k ^^^ l, by rw [xor_cm]⟩
theorem Dv.mul {d a : Nat} (h : Dv d a) (c : Nat) : Dv d (cm c a) := by
  obtain ⟨k, rfl⟩ := h
  exact ⟨cm c k, by rw [cm_assoc]⟩
theorem Dv.len {d p : Nat} (h : Dv d p) (hp : p ≠ 0) : bl d ≤ bl p ∧ d ≠ 0 := by
  obtain ⟨k, rfl⟩ := h
  have hk : k ≠ 0 := fun e => by subst e; rw [zero_cm] at hp; exact hp rfl
  have hd : d ≠ 0 := fun e => by subst e; rw [cm_zero] at hp; exact hp rfl
  have := bl_cm k d hk hd
  have := bl_pos.2 hk
  exact ⟨by omega, hd⟩
theorem dv_iff (d p : Nat) (hd : d ≠ 0) : Dv d p ↔ pm p d = 0 := by
  constructor
  · rintro ⟨k, rfl⟩
    refine pm_of ⟨k, by rw [Nat.xor_zero]⟩ ?_
    rw [bl_zero]; exact bl_pos.2 hd
  · intro h
    have := pm_cg p d
    rw [h] at this
    obtain ⟨k, hk⟩ := this
    exact ⟨k, by rw [← hk, Nat.zero_xor]⟩
theorem dv_cg {m a b : Nat} (h : Dv m (a ^^^ b)) : Cg m a b := h
theorem Cg.of_dv {g p a b : Nat} (h : Cg p a b) (d : Dv g p) : Cg g a b := by
  obtain ⟨k, hk⟩ := h
  have := d.mul k
  rw [← hk] at this
  exact this

/-- The greatest common divisor. -/
def gcF : Nat → Nat → Nat → Nat
  | 0, p, _ => p
  | f + 1, p, q => if q = 0 then p else gcF f q (pm p q)
def gc (p q : Nat) : Nat := gcF (bl q) p q
theorem gcF_fuel : ∀ (f g p q : Nat), bl q ≤ f → bl q ≤ g → gcF f p q = gcF g p q
  | 0, 0, p, q, _, _ => rfl
  | 0, g + 1, p, q, hf, hg => by
    have : q = 0 := bl_eq0.1 (by omega)
    subst this; rfl
  | f + 1, 0, p, q, hf, hg => by
    have : q = 0 := bl_eq0.1 (by omega)
    subst this; rfl
  | f + 1, g + 1, p, q, hf, hg => by
    unfold gcF
    by_cases h : q = 0
    · rw [if_pos h, if_pos h]
    · rw [if_neg h, if_neg h]
      have := pm_lt p q h
      exact gcF_fuel f g q (pm p q) (by omega) (by omega)
theorem gc_zero (p : Nat) : gc p 0 = p := rfl
theorem gc_step (p q : Nat) (h : q ≠ 0) : gc p q = gc q (pm p q) := by
  have a := bl_pos.2 h
  have b := pm_lt p q h
  unfold gc
  obtain ⟨f, hf⟩ : ∃ f, bl q = f + 1 := ⟨bl q - 1, by omega⟩
  rw [hf]
  conv => lhs; unfold gcF
  rw [if_neg h]
  exact gcF_fuel _ _ _ _ (by omega) (Nat.le_refl _)
theorem gc_ind {P : Nat → Nat → Prop} (h0 : ∀ p, P p 0) (h : ∀ p q, q ≠ 0 → P q (pm p q) → P p q) : ∀ p q, P p q := by
  have : ∀ n p q, bl q ≤ n → P p q := by
    intro n
    induction n with
    | zero => intro p q hq; have e : q = 0 := bl_eq0.1 (by omega)
              subst e; exact h0 p
    | succ n ih =>
      intro p q hq
      by_cases hz : q = 0
      · subst hz; exact h0 p
      · have := pm_lt p q hz
        exact h p q hz (ih q (pm p q) (by omega))
  exact fun p q => this _ p q (Nat.le_refl _)
theorem gc_dv (p q : Nat) : Dv (gc p q) p ∧ Dv (gc p q) q := by
  induction p, q using gc_ind with
  | h0 p => exact ⟨Dv.refl _, Dv.zero _⟩
  | h p q hq ih =>
    rw [gc_step p q hq]
    refine ⟨?_, ih.1⟩
    obtain ⟨k, hk⟩ := pm_cg p q
    have : p = pm p q ^^^ cm k q := by rw [← hk, ← Nat.xor_assoc, Nat.xor_self, Nat.zero_xor]
    have h2 := ih.2.xor (ih.1.mul k)
    rw [← this] at h2
    exact h2
theorem gc_bez (p q : Nat) : ∃ u v, gc p q = cm u p ^^^ cm v q := by
  induction p, q using gc_ind with
  | h0 p => exact ⟨1, 0, by rw [gc_zero, one_cm, zero_cm, Nat.xor_zero]⟩
  | h p q hq ih =>
    obtain ⟨u, v, e⟩ := ih
    obtain ⟨k, hk⟩ := pm_cg p q
    have hp : pm p q = p ^^^ cm k q := by rw [← hk, Nat.xor_comm p, xor_cancel]
    refine ⟨v, u ^^^ cm v k, ?_⟩
    rw [gc_step p q hq, e, hp, cm_xor, xor_cm, cm_assoc]
    ac_rfl
theorem gc_great {d p q : Nat} (h1 : Dv d p) (h2 : Dv d q) : Dv d (gc p q) := by
  obtain ⟨u, v, e⟩ := gc_bez p q
  rw [e]; exact (h1.mul u).xor (h2.mul v)
theorem gc_ne {p q : Nat} (h : p ≠ 0 ∨ q ≠ 0) : gc p q ≠ 0 := by
  rcases h with h | h
  · exact ((gc_dv p q).1.len h).2
  · exact ((gc_dv p q).2.len h).2

/-- No divisors but 1 and itself. -/
def Irr (m : Nat) : Prop := 2 ≤ bl m ∧ ∀ d, Dv d m → d = 1 ∨ d = m
theorem Irr.ne {m : Nat} (h : Irr m) : m ≠ 0 := bl_pos.1 (by have := h.1; omega)
theorem Irr.inv {m r : Nat} (h : Irr m) (hr : r ≠ 0) (hl : bl r < bl m) : ∃ s, bl s < bl m ∧ tm m s r = 1 := by
  have hm := h.ne
  obtain ⟨d1, d2⟩ := gc_dv r m
  rcases h.2 _ d2 with e | e
  · obtain ⟨u, v, b⟩ := gc_bez r m
    rw [e] at b
    refine ⟨pm u m, pm_lt u m hm, ?_⟩
    rw [tm_pm _ _ _ hm]
    refine pm_of ⟨v, ?_⟩ (by rw [bl_one]; have := h.1; omega)
    rw [b, ← Nat.xor_assoc, Nat.xor_self, Nat.zero_xor]
  · rw [e] at d1
    have := (d1.len hr).1
    omega
theorem Irr.cancel {m r x y : Nat} (h : Irr m) (hr : r ≠ 0) (hl : bl r < bl m) (hx : bl x < bl m) (hy : bl y < bl m) (e : tm m r x = tm m r y) : x = y := by
  have hm := h.ne
  obtain ⟨s, hs, hi⟩ := h.inv hr hl
  have : tm m s (tm m r x) = tm m s (tm m r y) := by rw [e]
  rw [← tm_assoc _ _ _ _ hm, ← tm_assoc _ _ _ _ hm, hi, tm_comm, tm_one, tm_comm, tm_one, pm_small hx, pm_small hy] at this
  exact this
theorem Irr.tm_ne {m r x : Nat} (h : Irr m) (hr : r ≠ 0) (hl : bl r < bl m) (hx : bl x < bl m) (h0 : x ≠ 0) : tm m r x ≠ 0 := fun e =>
  h0 (h.cancel hr hl hx (by rw [bl_zero]; have := h.1; omega) (by rw [e, tm_zero]))

theorem perm_of_sub : ∀ (a b : List Nat), a.Nodup → (∀ x ∈ a, x ∈ b) → b.length ≤ a.length → a.Perm b
  | [], b, _, _, h => by
    have : b = [] := List.length_eq_zero_iff.1 (by simpa using h)
    rw [this]
  | x :: t, b, hn, hs, h => by
    have hx : x ∈ b := hs x (by simp)
    have p := List.perm_cons_erase hx
    refine List.Perm.trans ?_ p.symm
    rw [List.nodup_cons] at hn
    refine (perm_of_sub t (b.erase x) hn.2 (fun y hy => ?_) ?_).cons x
    · have : y ≠ x := fun e => by subst e; exact hn.1 hy
      exact (List.mem_erase_of_ne this).2 (hs y (by simp [hy]))
    · rw [List.length_erase_of_mem hx]; simp at h; omega

def prodL (m : Nat) (l : List Nat) : Nat := l.foldr (tm m) 1
theorem prodL_perm {m : Nat} (hm : m ≠ 0) {a b : List Nat} (h : a.Perm b) : prodL m a = prodL m b := by
  induction h with
  | nil => rfl
  | cons x _ ih => unfold prodL at *; simp only [List.foldr_cons, ih]
  | swap x y l =>
    unfold prodL
    simp only [List.foldr_cons]
    rw [← tm_assoc _ _ _ _ hm, ← tm_assoc _ _ _ _ hm, tm_comm m x y]
  | trans _ _ h1 h2 => rw [h1, h2]
theorem prodL_lt {m : Nat} (hm : 2 ≤ bl m) (l : List Nat) : bl (prodL m l) < bl m := by
  cases l with
  | nil => simp [prodL, bl_one]; omega
  | cons x t => exact tm_lt _ _ _ (bl_pos.1 (by omega))
theorem prodL_ne {m : Nat} (h : Irr m) : ∀ (l : List Nat), (∀ x ∈ l, x ≠ 0 ∧ bl x < bl m) → prodL m l ≠ 0
  | [], _ => by simp [prodL]
  | x :: t, hl => h.tm_ne (hl x (by simp)).1 (hl x (by simp)).2 (prodL_lt h.1 t) (prodL_ne h t fun y hy => hl y (by simp [hy]))
theorem prodL_map {m : Nat} (hm : 2 ≤ bl m) (r : Nat) : ∀ (l : List Nat), prodL m (l.map (tm m r)) = tm m (pw m r l.length) (prodL m l)
  | [] => by
    show 1 = tm m 1 1
    rw [tm_one, pm_small (by rw [bl_one]; omega)]
  | x :: t => by
    have h0 : m ≠ 0 := bl_pos.1 (by omega)
    have ih := prodL_map hm r t
    show tm m (tm m r x) (prodL m (t.map (tm m r))) = tm m (tm m (pw m r t.length) r) (tm m x (prodL m t))
    rw [ih, tm_assoc _ _ _ _ h0, tm_assoc _ _ _ _ h0, tm_comm m x, tm_assoc _ _ _ _ h0, tm_comm m (prodL m t) x, ← tm_assoc _ _ _ _ h0, tm_comm m r, tm_assoc _ _ _ _ h0]

theorem fermat {m r : Nat} (h : Irr m) (hr : r ≠ 0) (hl : bl r < bl m) : pw m r (2 ^ (bl m - 1) - 1) = 1 := by
  have hm := h.ne
  have h2 := h.1
  obtain ⟨L, hL⟩ : ∃ L, L = List.range' 1 (2 ^ (bl m - 1) - 1) := ⟨_, rfl⟩
  have hmem : ∀ x, x ∈ L ↔ x ≠ 0 ∧ bl x < bl m := by
    intro x
    rw [hL, List.mem_range'_1, show bl m = bl m - 1 + 1 by omega, bl_lt, Nat.add_sub_cancel]
    have : 0 < 2 ^ (bl m - 1) := Nat.pow_pos (by decide)
    omega
  have hnd : L.Nodup := by rw [hL]; exact List.nodup_range'
  have hlen : L.length = 2 ^ (bl m - 1) - 1 := by rw [hL, List.length_range']
  have hnm : (L.map (tm m r)).Nodup := by
    have key : ∀ l : List Nat, l.Nodup → (∀ x ∈ l, x ≠ 0 ∧ bl x < bl m) → (l.map (tm m r)).Nodup := by
      intro l
      induction l with
      | nil => intro _ _; simp
      | cons x t ih =>
        intro hn hb
        rw [List.nodup_cons] at hn
        rw [List.map_cons, List.nodup_cons]
        refine ⟨fun hx => ?_, ih hn.2 fun y hy => hb y (by simp [hy])⟩
        obtain ⟨y, hy, e⟩ := List.mem_map.1 hx
        have := h.cancel hr hl (hb y (by simp [hy])).2 (hb x (by simp)).2 e
        subst this; exact hn.1 hy
    exact key L hnd fun x hx => (hmem x).1 hx
  have hp : (L.map (tm m r)).Perm L := by
    refine perm_of_sub _ _ hnm (fun x hx => ?_) (by simp)
    obtain ⟨y, hy, e⟩ := List.mem_map.1 hx
    subst e
    have := (hmem y).1 hy
    exact (hmem _).2 ⟨h.tm_ne hr hl this.2 this.1, tm_lt _ _ _ hm⟩
  have e := prodL_perm hm hp
  rw [prodL_map h2, hlen] at e
  have hP := prodL_ne h L fun x hx => (hmem x).1 hx
  have hPl := prodL_lt (m := m) h2 L
  refine h.cancel hP hPl (pw_lt m r _ h2) (by rw [bl_one]; omega) ?_
  rw [tm_one, pm_small hPl, tm_comm]
  exact e
theorem fermat2 {m : Nat} (h : Irr m) (a : Nat) : pw m a (2 ^ (bl m - 1)) = pm a m := by
  have hm := h.ne
  have h2 := h.1
  have hp : 0 < 2 ^ (bl m - 1) := Nat.pow_pos (by decide)
  by_cases ha : pm a m = 0
  · rw [← pw_pm m a _ hm, ha, show 2 ^ (bl m - 1) = 2 ^ (bl m - 1) - 1 + 1 by omega, pw, tm_zero]
  · rw [← pw_pm m a _ hm, show 2 ^ (bl m - 1) = 2 ^ (bl m - 1) - 1 + 1 by omega, pw, fermat h ha (pm_lt a m hm), tm_comm, tm_one, pm_pm _ _ hm]

theorem Dv.one {d : Nat} (h : Dv d 1) : d = 1 := by
  have := h.len (by decide)
  have h1 := bl_pos.2 this.2
  rw [bl_one] at this
  exact eq_one_of_bl (by omega)
/-- A divisor that is another one has another length. -/
theorem Dv.less {d p : Nat} (h : Dv d p) (hp : p ≠ 0) (h1 : d ≠ 1) (h2 : d ≠ p) : ∃ k, p = cm k d ∧ 2 ≤ bl k ∧ 2 ≤ bl d ∧ bl k + bl d = bl p + 1 := by
  have hd := (h.len hp).2
  obtain ⟨k, rfl⟩ := h
  have hk : k ≠ 0 := fun e => by subst e; rw [zero_cm] at hp; exact hp rfl
  have e := bl_cm k d hk hd
  have pk := bl_pos.2 hk
  have pd := bl_pos.2 hd
  have k1 : bl k ≠ 1 := fun e => h2 (by rw [eq_one_of_bl e, one_cm])
  have d1 : bl d ≠ 1 := fun e => h1 (eq_one_of_bl e)
  exact ⟨k, rfl, by omega, by omega, by omega⟩
theorem ex_irr : ∀ (n a : Nat), bl a ≤ n → 2 ≤ bl a → ∃ g, Irr g ∧ Dv g a := by
  intro n
  induction n with
  | zero => intro a h1 h2; omega
  | succ n ih =>
    intro a h1 h2
    have ha : a ≠ 0 := bl_pos.1 (by omega)
    by_cases h : Irr a
    · exact ⟨a, h, Dv.refl a⟩
    · have : ∃ d, Dv d a ∧ d ≠ 1 ∧ d ≠ a := by
        apply Classical.byContradiction
        intro hc
        refine h ⟨h2, fun d hd => ?_⟩
        apply Classical.byContradiction
        intro hh
        exact hc ⟨d, hd, fun e => hh (Or.inl e), fun e => hh (Or.inr e)⟩
      obtain ⟨d, hd, d1, d2⟩ := this
      obtain ⟨k, e, k2, l2, s⟩ := hd.less ha d1 d2
      obtain ⟨g, hg, hgd⟩ := ih d (by omega) l2
      exact ⟨g, hg, hgd.trans hd⟩

theorem pw_cg {g p : Nat} (h : Dv g p) (a : Nat) : ∀ n, Cg g (pw p a n) (pw g a n)
  | 0 => Cg.refl _ _
  | n + 1 => (((tm_cg p (pw p a n) a).of_dv h).trans ((pw_cg h a n).cml a)).trans (tm_cg g _ a).symm

/-- The test for primes: how many squares are asked yet, and the last one. -/
def prF (p : Nat) : Nat → Nat → Bool
  | 0, _ => true
  | n + 1, w => if gc p (tm p w w ^^^ 2) = 1 then prF p n (tm p w w) else false
def fitP (m : Nat) : Bool := decide (2 ≤ bl m) && decide (bl m ≤ 63)
def prB (p : Nat) : Bool := fitP p && prF p ((bl p - 1) / 2) 2
theorem prF_iff (p : Nat) (hp : 2 ≤ bl p) : ∀ (n j : Nat), prF p n (pw p 2 (2 ^ j)) = true ↔ ∀ i, j < i → i ≤ j + n → gc p (pw p 2 (2 ^ i) ^^^ 2) = 1
  | 0, j => by simp [prF]; intro i h1 h2; omega
  | n + 1, j => by
    have e : tm p (pw p 2 (2 ^ j)) (pw p 2 (2 ^ j)) = pw p 2 (2 ^ (j + 1)) := by
      rw [← pw_add _ _ _ _ hp]; congr 1; rw [Nat.pow_succ]; omega
    unfold prF
    rw [e]
    have ih := prF_iff p hp n (j + 1)
    constructor
    · intro h
      split at h
      · rename_i hg
        intro i h1 h2
        by_cases hi : i = j + 1
        · rw [hi]; exact hg
        · exact ih.1 h i (by omega) (by omega)
      · simp at h
    · intro h
      rw [if_pos (h (j + 1) (by omega) (by omega))]
      exact ih.2 fun i h1 h2 => h i (by omega) (by omega)
theorem prB_iff (p : Nat) : prB p = true ↔ 2 ≤ bl p ∧ bl p ≤ 63 ∧ ∀ i, 0 < i → i ≤ (bl p - 1) / 2 → gc p (pw p 2 (2 ^ i) ^^^ 2) = 1 := by
  unfold prB fitP
  simp only [Bool.and_eq_true, decide_eq_true_eq]
  rw [and_assoc]
  refine and_congr_right fun h2 => and_congr_right fun _ => ?_
  by_cases h3 : 3 ≤ bl p
  · have := prF_iff p h2 ((bl p - 1) / 2) 0
    rw [Nat.pow_zero, pw_one, pm_small (by rw [bl_twoX]; omega)] at this
    rw [this]; simp
  · have e : (bl p - 1) / 2 = 0 := by omega
    rw [e]
    simp [prF]
    intro i h1 h2; omega
theorem prB_irr {p : Nat} (h : prB p = true) : Irr p := by
  obtain ⟨h2, h63, hg⟩ := (prB_iff p).1 h
  have hp : p ≠ 0 := bl_pos.1 (by omega)
  refine ⟨h2, fun d hd => ?_⟩
  apply Classical.byContradiction
  intro hc
  obtain ⟨k, e, k2, d2, s⟩ := hd.less hp (fun e => hc (Or.inl e)) (fun e => hc (Or.inr e))
  have : ∃ a, Dv a p ∧ 2 ≤ bl a ∧ bl a - 1 ≤ (bl p - 1) / 2 := by
    by_cases hh : bl d ≤ bl k
    · exact ⟨d, hd, d2, by omega⟩
    · exact ⟨k, ⟨d, by rw [cm_comm]; exact e⟩, k2, by omega⟩
  obtain ⟨a, ha, a2, al⟩ := this
  obtain ⟨g, hgi, hga⟩ := ex_irr _ a (Nat.le_refl _) a2
  have hgp := hga.trans ha
  have gl := (hga.len (bl_pos.1 (by omega))).1
  have g2 := hgi.1
  have key := hg (bl g - 1) (by omega) (by omega)
  have c1 := pw_cg hgp 2 (2 ^ (bl g - 1))
  rw [fermat2 hgi] at c1
  have c2 : Dv g (pw p 2 (2 ^ (bl g - 1)) ^^^ 2) := c1.trans (pm_cg 2 g)
  have := gc_great hgp c2
  rw [key] at this
  have := this.one
  rw [this, bl_one] at g2
  omega
/-- By a prime one every one but nought has an inverse. -/
theorem inverse {m r : Nat} (h : Irr m) (hd : 3 ≤ bl m) (hr : r ≠ 0) (hl : bl r < bl m) : tm m r (pw m r (2 ^ (bl m - 1) - 2)) = 1 := by
  have := fermat h hr hl
  have h4 : 2 ^ 2 ≤ 2 ^ (bl m - 1) := Nat.pow_le_pow_right (by decide) (by omega)
  rw [show 2 ^ (bl m - 1) - 1 = 2 ^ (bl m - 1) - 2 + 1 by omega, pw, tm_comm] at this
  exact this
theorem prime_big : prB 17349423945073011 = true := by decide +kernel
end Go.Proofs.Ytnfemofighgenab
