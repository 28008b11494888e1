/- Trees of codes: plain mathematics, no program. -/
import Derived.Test.YtclmjopppaknjaaQHuffD
import Derived.Test.YtclmjopppaknjaaQBitioM
namespace Go.Proofs.Ytclmjopppaknjaa
open Go
set_option linter.unusedVariables false

theorem cdOf_at (ns : List Nat) (s : Nat) (h : 0 < ln ns s) : cdOf ns s = cd ns (ln ns s) s := by unfold cdOf; rw [if_pos h]
/-- A symbol's code as bits. -/
def codeS (ns : List Nat) (s : Nat) : List Bool := highB (cdOf ns s) (ln ns s)
theorem codeS_len (ns : List Nat) (s : Nat) : (codeS ns s).length = ln ns s := highB_len _ _
theorem highB_take (x n m : Nat) (h : m ≤ n) : (highB x n).take m = highB (x / 2 ^ (n - m)) m := by
  apply List.ext_getElem?
  intro i
  by_cases hi : i < m
  · rw [List.getElem?_take, if_pos hi]
    unfold highB
    rw [List.getElem?_map, List.getElem?_map, List.getElem?_range (by omega), List.getElem?_range hi]
    simp only [Option.map_some]
    rw [Nat.testBit_div_two_pow, show m - 1 - i + (n - m) = n - 1 - i by omega]
  · rw [List.getElem?_eq_none (by rw [List.length_take, highB_len]; omega), List.getElem?_eq_none (by rw [highB_len]; omega)]
theorem highB_inj {x y n : Nat} (hx : x < 2 ^ n) (hy : y < 2 ^ n) (h : highB x n = highB y n) : x = y := by
  have h1 := turnN_high x n
  have h2 := turnN_high y n
  rw [Nat.mod_eq_of_lt hx] at h1
  rw [Nat.mod_eq_of_lt hy] at h2
  rw [← h1, ← h2]
  refine turnN_congr n fun i hi => ?_
  rw [← highB_at x n i hi, ← highB_at y n i hi, h]
/-- No code begins another one. -/
theorem codeS_pf (ns : List Nat) (h15 : all15 ns) (hf : fitB ns = true) (s t : Nat) (hs : s < ns.length) (ht : t < ns.length) (ps : 0 < ln ns s) (pt : 0 < ln ns t) (h : codeS ns s <+: codeS ns t) : s = t := by
  by_cases hne : s = t
  · exact hne
  exfalso
  have hl := h.length_le
  rw [codeS_len, codeS_len] at hl
  have e : codeS ns s = (codeS ns t).take (ln ns s) := by have := List.prefix_iff_eq_take.1 h; rwa [codeS_len] at this
  unfold codeS at e
  rw [highB_take _ _ _ hl] at e
  have b1 := cd_lt ns h15 hf s hs ps
  have b2 := cd_lt ns h15 hf t ht pt
  rw [← cdOf_at ns s ps] at b1
  rw [← cdOf_at ns t pt] at b2
  have b3 : cdOf ns t / 2 ^ (ln ns t - ln ns s) < 2 ^ ln ns s := by
    rw [Nat.div_lt_iff_lt_mul (Nat.two_pow_pos _), ← Nat.pow_add, show ln ns s + (ln ns t - ln ns s) = ln ns t by omega]; exact b2
  have e2 := highB_inj b1 b3 e
  rcases ahead_total ns t s (fun h => hne h.symm) with h1 | h1
  · have := cd_apart ns h15 t s hs ps h1
    rw [← cdOf_at ns s ps, ← cdOf_at ns t pt] at this
    omega
  · have := cd_apart ns h15 s t ht pt h1
    have hle := ahead_iff.1 h1
    have e3 : ln ns s = ln ns t := by omega
    rw [← cdOf_at ns s ps, ← cdOf_at ns t pt, e3, Nat.sub_self, Nat.pow_zero, Nat.div_one] at this
    rw [e3, Nat.sub_self, Nat.pow_zero, Nat.div_one] at e2
    omega
/-- A tree of n branchings: br u b is what bit b leads to at u; path u the bits that lead to u; the codes of A are in it; those of E are going to be. -/
structure TreeI (ns : List Nat) (A E : Nat → Prop) (n : Nat) (br : Nat → Bool → Int) (path : Nat → List Bool) : Prop where
  pos : 0 < n
  root : path 0 = []
  inj : ∀ u v, u < n → v < n → path u = path v → u = v
  par : ∀ u, u < n → u ≠ 0 → ∃ p b, p < n ∧ br p b = (u : Int) ∧ path u = path p ++ [b]
  up : ∀ u b, u < n → 0 < br u b → ∃ v : Nat, br u b = (v : Int) ∧ v < n ∧ path v = path u ++ [b]
  leaf : ∀ u b, u < n → br u b < 0 → ∃ s : Nat, A s ∧ br u b = -1 - (s : Int) ∧ codeS ns s = path u ++ [b]
  none : ∀ u b, u < n → br u b = 0 → ∀ s, A s → ¬ (path u ++ [b]) <+: codeS ns s
  ext : ∀ u, u < n → u ≠ 0 → ∃ s, E s ∧ path u <+: codeS ns s ∧ path u ≠ codeS ns s
/-- One place of a tree changed. -/
def setBr (br : Nat → Bool → Int) (u : Nat) (b : Bool) (x : Int) : Nat → Bool → Int := fun v c => if v = u ∧ c = b then x else br v c
theorem TreeI.start (ns : List Nat) : TreeI ns (fun _ => False) (fun _ => False) 1 (fun _ _ => 0) (fun _ => []) :=
  ⟨by decide, rfl, fun u v hu hv _ => by omega, fun u hu h0 => by omega, fun u b _ h => by omega, fun u b _ h => by omega, fun u b _ _ s h => h.elim, fun u hu h0 => by omega⟩
theorem TreeI.more {ns : List Nat} {A E F : Nat → Prop} {n : Nat} {br : Nat → Bool → Int} {path : Nat → List Bool} (h : TreeI ns A E n br path) (hF : ∀ s, E s → F s) : TreeI ns A F n br path :=
  ⟨h.pos, h.root, h.inj, h.par, h.up, h.leaf, h.none, fun u hu h0 => by obtain ⟨s, h1, h2⟩ := h.ext u hu h0; exact ⟨s, hF s h1, h2⟩⟩
theorem snoc_inj {p q : List Bool} {b c : Bool} (h : p ++ [b] = q ++ [c]) : p = q ∧ b = c := by
  have := List.append_inj' h rfl
  exact ⟨this.1, by simpa using this.2⟩
/-- A new branching behind a bit that led nowhere. -/
theorem TreeI.node {ns : List Nat} {A E : Nat → Prop} {n : Nat} {br : Nat → Bool → Int} {path : Nat → List Bool} (h : TreeI ns A E n br path) (hz : ∀ c, br n c = 0) (u : Nat) (b : Bool) (hu : u < n) (h0 : br u b = 0)
    (hE : ∃ s, E s ∧ (path u ++ [b]) <+: codeS ns s ∧ path u ++ [b] ≠ codeS ns s) : TreeI ns A E (n + 1) (setBr br u b (n : Int)) (fun v => if v = n then path u ++ [b] else path v) := by
  have hne : u ≠ n := by omega
  have fresh : ∀ v, v < n → path v ≠ path u ++ [b] := fun v hv e => by
    by_cases hv0 : v = 0
    · subst hv0; rw [h.root] at e; simp at e
    · obtain ⟨p, c, hp, hbr, hpath⟩ := h.par v hv hv0
      rw [hpath] at e
      obtain ⟨e1, e2⟩ := snoc_inj e
      have := h.inj p u hp hu e1
      subst this; subst e2
      rw [h0] at hbr
      omega
  have hbn : ∀ c, setBr br u b (n : Int) n c = 0 := fun c => by unfold setBr; rw [if_neg (by omega)]; exact hz c
  refine ⟨by omega, ?_, ?_, ?_, ?_, ?_, ?_, ?_⟩
  · show (if 0 = n then _ else path 0) = _
    rw [if_neg (by have := h.pos; omega)]; exact h.root
  · intro v w hv hw e
    by_cases e1 : v = n
    · by_cases e2 : w = n
      · omega
      · rw [if_pos e1, if_neg e2] at e; exact absurd e.symm (fresh w (by omega))
    · by_cases e2 : w = n
      · rw [if_neg e1, if_pos e2] at e; exact absurd e (fresh v (by omega))
      · rw [if_neg e1, if_neg e2] at e; exact h.inj v w (by omega) (by omega) e
  · intro v hv hv0
    by_cases e1 : v = n
    · subst e1
      exact ⟨u, b, by omega, by unfold setBr; rw [if_pos ⟨rfl, rfl⟩], by rw [if_pos rfl, if_neg hne]⟩
    · obtain ⟨p, c, hp, hbr, hpath⟩ := h.par v (by omega) hv0
      refine ⟨p, c, by omega, ?_, by rw [if_neg e1, if_neg (by omega)]; exact hpath⟩
      unfold setBr
      rw [if_neg]
      · exact hbr
      · rintro ⟨rfl, rfl⟩
        rw [h0] at hbr; omega
  · intro v c hv hx
    by_cases e1 : v = n
    · subst e1; rw [hbn] at hx; omega
    · by_cases e2 : v = u ∧ c = b
      · obtain ⟨rfl, rfl⟩ := e2
        exact ⟨n, by unfold setBr; rw [if_pos ⟨rfl, rfl⟩], by omega, by rw [if_pos rfl, if_neg e1]⟩
      · unfold setBr at hx ⊢
        rw [if_neg e2] at hx ⊢
        obtain ⟨x, h1, h2, h3⟩ := h.up v c (by omega) hx
        exact ⟨x, h1, by omega, by rw [if_neg (by omega), if_neg e1]; exact h3⟩
  · intro v c hv hx
    by_cases e1 : v = n
    · subst e1; rw [hbn] at hx; omega
    · by_cases e2 : v = u ∧ c = b
      · unfold setBr at hx; rw [if_pos e2] at hx; omega
      · unfold setBr at hx ⊢
        rw [if_neg e2] at hx ⊢
        obtain ⟨x, h1, h2, h3⟩ := h.leaf v c (by omega) hx
        exact ⟨x, h1, h2, by rw [if_neg e1]; exact h3⟩
  · intro v c hv hx s hs hp
    by_cases e1 : v = n
    · rw [if_pos e1] at hp
      exact h.none u b hu h0 s hs (List.IsPrefix.trans (List.prefix_append _ _) hp)
    · rw [if_neg e1] at hp
      by_cases e2 : v = u ∧ c = b
      · unfold setBr at hx; rw [if_pos e2] at hx; have := h.pos; omega
      · unfold setBr at hx; rw [if_neg e2] at hx
        exact h.none v c (by omega) hx s hs hp
  · intro v hv hv0
    by_cases e1 : v = n
    · obtain ⟨s, h1, h2, h3⟩ := hE
      exact ⟨s, h1, by rw [if_pos e1]; exact h2, by rw [if_pos e1]; exact h3⟩
    · obtain ⟨s, h1, h2, h3⟩ := h.ext v (by omega) hv0
      exact ⟨s, h1, by rw [if_neg e1]; exact h2, by rw [if_neg e1]; exact h3⟩
/-- What stands on the way to a branching leads on. -/
theorem TreeI.follows {ns : List Nat} {A E : Nat → Prop} {n : Nat} {br : Nat → Bool → Int} {path : Nat → List Bool} (h : TreeI ns A E n br path) (x : Nat) (c : Bool) (hx : x < n) :
    ∀ (m u : Nat), (path u).length ≤ m → u < n → (path x ++ [c]) <+: path u → br x c ≠ 0
  | 0, u, hm, hu, hp => by
    have := hp.length_le
    simp at this
    omega
  | m + 1, u, hm, hu, hp => by
    by_cases hu0 : u = 0
    · subst hu0; rw [h.root] at hp; simp at hp
    · obtain ⟨p, b, hpn, hbr, hpath⟩ := h.par u hu hu0
      rw [hpath] at hp
      rcases List.prefix_concat_iff.1 hp with e | e
      · obtain ⟨e1, e2⟩ := snoc_inj e
        have := h.inj x p hx hpn e1
        subst this; subst e2
        rw [hbr]; omega
      · exact h.follows x c hx m p (by rw [hpath] at hm; simp at hm; omega) hpn e
/-- A code's last bit. -/
theorem TreeI.code {ns : List Nat} {A E : Nat → Prop} {n : Nat} {br : Nat → Bool → Int} {path : Nat → List Bool} (h : TreeI ns A E n br path) (u : Nat) (b : Bool) (s : Nat) (hu : u < n) (hs : path u ++ [b] = codeS ns s) (h0 : br u b = 0) (hpf : ∀ t, A t → codeS ns t <+: codeS ns s → False) :
    TreeI ns (fun t => A t ∨ t = s) E n (setBr br u b (-1 - (s : Int))) path := by
  refine ⟨h.pos, h.root, h.inj, ?_, ?_, ?_, ?_, h.ext⟩
  · intro v hv hv0
    obtain ⟨p, c, hp, hbr, hpath⟩ := h.par v hv hv0
    refine ⟨p, c, hp, ?_, hpath⟩
    unfold setBr
    rw [if_neg]
    · exact hbr
    · rintro ⟨rfl, rfl⟩
      rw [h0] at hbr; omega
  · intro v c hv hx
    by_cases e2 : v = u ∧ c = b
    · unfold setBr at hx; rw [if_pos e2] at hx; omega
    · unfold setBr at hx ⊢
      rw [if_neg e2] at hx ⊢
      exact h.up v c hv hx
  · intro v c hv hx
    by_cases e2 : v = u ∧ c = b
    · obtain ⟨rfl, rfl⟩ := e2
      exact ⟨s, .inr rfl, by unfold setBr; rw [if_pos ⟨rfl, rfl⟩], hs.symm⟩
    · unfold setBr at hx ⊢
      rw [if_neg e2] at hx ⊢
      obtain ⟨x, h1, h2, h3⟩ := h.leaf v c hv hx
      exact ⟨x, .inl h1, h2, h3⟩
  · intro v c hv hx t ht hp
    by_cases e2 : v = u ∧ c = b
    · unfold setBr at hx; rw [if_pos e2] at hx; omega
    · unfold setBr at hx; rw [if_neg e2] at hx
      rcases ht with ht | rfl
      · exact h.none v c hv hx t ht hp
      · rw [← hs] at hp
        rcases List.prefix_concat_iff.1 hp with e | e
        · obtain ⟨e3, e4⟩ := snoc_inj e
          exact e2 ⟨h.inj v u hv hu e3, e4⟩
        · exact h.follows v c hv _ u (Nat.le_refl _) hu e hx
end Go.Proofs.Ytclmjopppaknjaa
