/- Folders in a row and in one another: what Check says of them (pure). -/
import Derived.Test.YtomghgbbojfpnaaDoorNodM
import Derived.Test.YtomghgbbojfpnaaDoorNodF
namespace Go.Proofs.YtomghgbbojfpnaaDoor
set_option linter.unusedVariables false
set_option linter.unusedSimpArgs false

def nm (i : Nat) : List UInt8 := [UInt8.ofNat (97 + i / 26), UInt8.ofNat (97 + i % 26)]
def nst (b : List UInt8) : Nat → List UInt8
  | 0 => b
  | k + 1 => nst b k ++ [47, 120]
/-- Small letters. -/
def low (l : List UInt8) : Prop := ∀ x ∈ l, 97 ≤ x.toNat ∧ x.toNat ≤ 122
theorem low.slash {l : List UInt8} (h : low l) : ∀ x ∈ l, x ≠ 47 := fun x hx e => by have := (h x hx).1; subst e; simp at this
theorem low_runes : ∀ l : List UInt8, low l → runesOk l = true
  | [], _ => runesOk_nil
  | c :: t, h => by
    have hc := h c (by simp)
    rw [runesOk_cons (by simp)]
    have : rn (c :: t) = (c.toNat, 1) := dcd_ascii c t (by omega)
    rw [this]
    have ih := low_runes t (fun x hx => h x (by simp [hx]))
    show (okR (c.toNat, 1) && runesOk t) = true
    rw [ih]
    have hb : ¬ brk (c.toNat, 1) := fun hb => by have := hb.1; simp at this; omega
    unfold okR
    simp [hb]
    omega
theorem low_name {l : List UInt8} (h : low l) (h1 : 1 ≤ l.length) (h2 : l.length ≤ 60) : nameL l = true := by
  unfold nameL
  rw [low_runes l h]
  have a1 : l ≠ [46] := fun e => by subst e; have := (h 46 (by simp)).1; simp at this
  have a2 : l ≠ [46, 46] := fun e => by subst e; have := (h 46 (by simp)).1; simp at this
  simp [h1, h2, a1, a2]
theorem nm_low {i : Nat} (hi : i < 676) : low (nm i) := by
  intro x hx
  have h1 : i / 26 < 26 := by omega
  simp [nm] at hx
  rcases hx with rfl | rfl
  · simp; omega
  · simp; omega
theorem x_low : low [120] := by intro x hx; simp at hx; subst hx; decide
theorem nst_parts {b : List UInt8} (hb : low b) : ∀ k, parts (nst b k) = b :: List.replicate k [120]
  | 0 => parts_none b hb.slash
  | k + 1 => by
    show parts (nst b k ++ 47 :: [120]) = _
    rw [parts_join, nst_parts hb k, show parts [120] = [[120]] by decide, List.replicate_succ', List.cons_append]
theorem nst_len (b : List UInt8) : ∀ k, (nst b k).length = b.length + 2 * k
  | 0 => rfl
  | k + 1 => by show (nst b k ++ [47, 120]).length = _; rw [List.length_append, nst_len b k]; simp; omega
theorem nst_is {b : List UInt8} (hb : low b) (h1 : 1 ≤ b.length) (h2 : b.length ≤ 60) (k : Nat) (hk : k ≤ 20) : isL (nst b k) = decide (k + 1 ≤ 8) := by
  unfold isL
  rw [nst_parts hb, nst_len]
  have : ((b :: List.replicate k [120]).all nameL) = true := by
    rw [List.all_cons, low_name hb h1 h2, List.all_replicate]
    simp [low_name x_low]
  rw [this]
  simp
  omega
theorem nst_par (b : List UInt8) (k : Nat) : parL (nst b (k + 1)) = nst b k := parL_at (nst b k) [120] x_low.slash
theorem nst_rise {b : List UInt8} (hb : low b) (k : Nat) : pcm (nst b k) (nst b (k + 1)) < 0 := by
  unfold pcm
  rw [nst_parts hb, nst_parts hb, List.replicate_succ', ← List.cons_append, lex_more cmpB_ord _ _ (by simp)]
  decide
theorem nm_rise : ∀ i, i < 260 → pcm (nm i) (nm (i + 1)) < 0 := by decide +kernel
theorem nm_first : pcm [] (nm 0) < 0 := by decide
theorem nm_par {i : Nat} (hi : i < 676) : parL (nm i) = [] := parL_none (nm_low hi).slash
def fo (a : List UInt8) : Nd := .fol a 0 0
theorem fo_unfit (a : List UInt8) : unfitN (fo a) = if isL a = true then 0 else 11 := by
  unfold unfitN fo
  simp only [kindN, atN]
  have : formN (Nd.fol a 0 0) = true := by simp [formN, datedN]
  rw [this]
  by_cases h : isL a = true
  · rw [if_pos h]; simp [h]
  · have h' : isL a = false := by simpa using h
    rw [if_neg h]; simp [h']
theorem chk_fo {a p : List UInt8} {fs : List (List UInt8)} {r : List Nd} (h1 : isL a = true) (h2 : pcm p a < 0) (h3 : parL a ∈ fs) : chkN p fs (fo a :: r) = chkN a (a :: fs) r := by
  rw [chkN, fo_unfit, if_pos h1, if_neg (by simp), if_neg (by show ¬ 0 ≤ pcm p a; omega), if_neg (by show ¬ parL a ∉ fs; simpa using h3)]
  rfl
theorem chk_row : ∀ (m i : Nat) (p : List UInt8) (fs : List (List UInt8)) (r : List Nd), i + m < 260 → pcm p (nm i) < 0 → [] ∈ fs →
    ∃ fs', [] ∈ fs' ∧ nm (i + m) ∈ fs' ∧ chkN p fs (((List.range' i (m + 1)).map fun j => fo (nm j)) ++ r) = chkN (nm (i + m)) fs' r
  | 0, i, p, fs, r, hi, hp, h0 => by
    refine ⟨nm i :: fs, by simp [h0], by simp, ?_⟩
    show chkN p fs (fo (nm i) :: r) = _
    have hl := nm_low (i := i) (by omega)
    exact chk_fo (by have := nst_is hl (by simp [nm]) (by simp [nm]) 0 (by omega); simpa [nst] using this) hp (by rw [nm_par (by omega)]; exact h0)
  | m + 1, i, p, fs, r, hi, hp, h0 => by
    obtain ⟨fs', h1, h2, h3⟩ := chk_row m (i + 1) (nm i) (nm i :: fs) r (by omega) (nm_rise i (by omega)) (by simp [h0])
    refine ⟨fs', h1, by rw [show i + (m + 1) = i + 1 + m by omega]; exact h2, ?_⟩
    rw [List.range'_succ, List.map_cons, List.cons_append]
    have hl := nm_low (i := i) (by omega)
    rw [chk_fo (by have := nst_is hl (by simp [nm]) (by simp [nm]) 0 (by omega); simpa [nst] using this) hp (by rw [nm_par (by omega)]; exact h0), h3, show i + (m + 1) = i + 1 + m by omega]
theorem chk_nst {b : List UInt8} (hb : low b) (h1 : 1 ≤ b.length) (h2 : b.length ≤ 60) : ∀ (m k : Nat) (fs : List (List UInt8)), nst b k ∈ fs → k + m ≤ 20 →
    chkN (nst b k) fs ((List.range' (k + 1) m).map fun j => fo (nst b j)) = if m = 0 ∨ k + m + 1 ≤ 8 then 0 else 11
  | 0, k, fs, hf, hk => by simp [chkN]
  | m + 1, k, fs, hf, hk => by
    rw [List.range'_succ, List.map_cons]
    by_cases hd : k + 2 ≤ 8
    · rw [chk_fo (by rw [nst_is hb h1 h2 _ (by omega)]; simp; omega) (nst_rise hb k) (by rw [nst_par]; exact hf), chk_nst hb h1 h2 m (k + 1) _ (by simp) (by omega)]
      by_cases h3 : m = 0
      · subst h3; rw [if_pos (.inl rfl), if_pos (.inr (by omega))]
      · by_cases h4 : k + (m + 1) + 1 ≤ 8
        · rw [if_pos (.inr (by omega)), if_pos (.inr h4)]
        · rw [if_neg (by omega), if_neg (by omega)]
    · have hu : unfitN (fo (nst b (k + 1))) = 11 := by
        rw [fo_unfit, if_neg (by rw [nst_is hb h1 h2 _ (by omega)]; simp; omega)]
      rw [if_neg (by omega), chkN, hu, if_pos (by decide)]
/-- The tree of NodeFull. -/
def fullN (n d : Nat) : List Nd := ((List.range' 0 n).map fun j => fo (nm j)) ++ (List.range' 1 (d - 1)).map fun j => fo (nst (nm (n - 1)) j)
theorem fullN_len (n d : Nat) : (fullN n d).length = n + (d - 1) := by unfold fullN; simp
theorem fullN_check (n d : Nat) (h1 : 1 ≤ n) (h2 : n ≤ 260) (h3 : 1 ≤ d) (h4 : d ≤ 10) : checkN (fullN n d) = if 200 < n + (d - 1) then 2 else if 8 < d then 11 else 0 := by
  unfold checkN
  rw [fullN_len]
  by_cases h5 : 200 < n + (d - 1)
  · rw [if_pos h5, if_pos h5]
  · rw [if_neg h5, if_neg h5]
    obtain ⟨m, rfl⟩ : ∃ m, n = m + 1 := ⟨n - 1, by omega⟩
    unfold fullN
    obtain ⟨fs', _, k2, k3⟩ := chk_row m 0 [] [[]] ((List.range' 1 (d - 1)).map fun j => fo (nst (nm (m + 1 - 1)) j)) (by omega) nm_first (by simp)
    rw [Nat.zero_add] at k2 k3
    rw [k3]
    have hl := nm_low (i := m) (by omega)
    have := chk_nst hl (by simp [nm]) (by simp [nm]) (d - 1) 0 fs' (by simpa [nst] using k2) (by omega)
    rw [show nst (nm m) 0 = nm m from rfl, Nat.zero_add] at this
    rw [show m + 1 - 1 = m by omega, this]
    by_cases h6 : 8 < d
    · rw [if_neg (by omega), if_pos h6]
    · rw [if_pos (by omega), if_neg h6]
theorem tld_fo (a : List UInt8) : 4 + a.length ≤ (tldN (fo a)).length := by
  have hv : ∀ x, 1 ≤ (vb x).length := fun x => by unfold vb; rw [List.length_map]; exact varN_pos x
  show 4 + a.length ≤ (headB 1 a 0 0).length
  unfold headB
  simp only [List.length_append]
  have := hv 1
  have := hv a.length
  have := hv 0
  omega
theorem flat_fo : ∀ l : List (List UInt8), (∀ a ∈ l, 2 ≤ a.length) → 6 * l.length ≤ ((l.map fun a => tldN (fo a)).flatten).length
  | [], _ => by simp
  | a :: t, h => by
    have ih := flat_fo t (fun x hx => h x (by simp [hx]))
    have := tld_fo a
    have := h a (by simp)
    simp only [List.map_cons, List.flatten_cons, List.length_append, List.length_cons]
    omega
theorem fullN_enc (n d : Nat) (h1 : 1 ≤ n) : 5 * n < (encN (fullN n d)).length := by
  unfold encN
  have e : (fullN n d).map tldN = (((List.range' 0 n).map nm) ++ (List.range' 1 (d - 1)).map (nst (nm (n - 1)))).map fun a => tldN (fo a) := by
    unfold fullN; simp [Function.comp_def]
  rw [e, List.length_append]
  have := flat_fo (((List.range' 0 n).map nm) ++ (List.range' 1 (d - 1)).map (nst (nm (n - 1)))) (by
    intro a ha
    rcases List.mem_append.1 ha with h | h
    · obtain ⟨i, _, rfl⟩ := List.mem_map.1 h; simp [nm]
    · obtain ⟨i, _, rfl⟩ := List.mem_map.1 h; rw [nst_len]; simp [nm])
  simp only [List.length_append, List.length_map, List.length_range'] at this
  omega
end Go.Proofs.YtomghgbbojfpnaaDoor
