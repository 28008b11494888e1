/- A log's frames, and what is read of any bytes, as plain functions. -/
import Derived.Test.YtkaikjlklhcnlaaOrderM
import Derived.Test.YtkaikjlklhcnlaaBsM
namespace Go.Proofs.Ytkaikjlklhcnlaa
set_option linter.unusedVariables false
set_option linter.unusedSimpArgs false

def le4 (n : Nat) : List UInt8 := (putN n 4).map UInt8.ofNat
theorem le4_len (n : Nat) : (le4 n).length = 4 := by simp [le4, putN_len]
theorem getN_le4 {n : Nat} (h : n < 4294967296) : getN (le4 n) = n := by rw [le4, getN_put]; exact Nat.mod_eq_of_lt h
theorem getN_inj : ∀ {l m : List UInt8}, l.length = m.length → getN l = getN m → l = m
  | [], [], _, _ => rfl
  | [], _ :: _, h, _ => by simp at h
  | _ :: _, [], h, _ => by simp at h
  | a :: l, b :: m, h, e => by
    simp only [getN] at e
    have ha := a.toNat_lt
    have hb := b.toNat_lt
    have e1 : a.toNat = b.toNat := by omega
    have e2 : getN l = getN m := by omega
    rw [UInt8.toNat_inj.1 e1, getN_inj (by simpa using h) e2]
theorem getN_lt4 {l : List UInt8} (h : l.length = 4) : getN l < 4294967296 := by have := getN_lt l; rw [h] at this; omega
theorem le4_getN {l : List UInt8} (h : l.length = 4) : le4 (getN l) = l := getN_inj (by rw [le4_len, h]) (getN_le4 (getN_lt4 h))

/-- A record's frame. -/
def frm (r : List UInt8) : List UInt8 := le4 r.length ++ (r ++ le4 (crcV 0 r))
theorem frm_len (r : List UInt8) : (frm r).length = r.length + 8 := by simp [frm, le4_len]; omega
def rcN (s : List UInt8) : Nat := getN (s.take 4)
def rcT (s : List UInt8) : List UInt8 := (s.drop 4).take (rcN s)
/-- The record whose frame stands at the front. -/
def fst1 (s : List UInt8) : Option (List UInt8) :=
  if 4 ≤ s.length ∧ rcN s ≤ 5000 ∧ rcN s + 8 ≤ s.length ∧ getN ((s.drop (4 + rcN s)).take 4) = crcV 0 (rcT s) then some (rcT s) else none
theorem rcN_frm {r t : List UInt8} (hr : r.length ≤ 5000) : rcN (frm r ++ t) = r.length := by
  unfold rcN frm
  rw [List.append_assoc, List.take_left' (le4_len _), getN_le4 (by omega)]
theorem fst1_frm {r t : List UInt8} (hr : r.length ≤ 5000) : fst1 (frm r ++ t) = some r := by
  have h1 : rcT (frm r ++ t) = r := by
    unfold rcT
    rw [rcN_frm hr]
    unfold frm
    rw [List.append_assoc, List.drop_left' (le4_len _), List.append_assoc, List.take_left' rfl]
  have h2 : ((frm r ++ t).drop (4 + r.length)).take 4 = le4 (crcV 0 r) := by
    unfold frm
    rw [← List.drop_drop, List.append_assoc, List.drop_left' (le4_len _), List.append_assoc, List.drop_left' rfl, List.take_left' (le4_len _)]
  unfold fst1
  rw [if_pos, h1]
  rw [rcN_frm hr, h1, h2, getN_le4 (crcV_lt _ _)]
  refine ⟨?_, hr, ?_, rfl⟩ <;> rw [List.length_append, frm_len] <;> omega
theorem fst1_sound {s r : List UInt8} (h : fst1 s = some r) : r.length ≤ 5000 ∧ r.length + 8 ≤ s.length ∧ s = frm r ++ s.drop (8 + r.length) := by
  unfold fst1 at h
  split at h
  · rename_i hc
    obtain ⟨h1, h2, h3, h4⟩ := hc
    injection h with h
    have hrl : r.length = rcN s := by rw [← h]; unfold rcT; rw [List.length_take, List.length_drop]; omega
    refine ⟨by omega, by omega, ?_⟩
    have e1 : s.take 4 = le4 r.length := by rw [hrl]; unfold rcN; rw [le4_getN (by rw [List.length_take]; omega)]
    have e2 : (s.drop (4 + rcN s)).take 4 = le4 (crcV 0 r) := by rw [← h, ← h4, le4_getN (by rw [List.length_take, List.length_drop]; omega)]
    have e3 : (s.drop 4).take (rcN s) = r := h
    unfold frm
    rw [← e1, ← e2, List.append_assoc, List.append_assoc]
    conv => lhs; rw [← List.take_append_drop 4 s]
    congr 1
    conv => lhs; rw [← List.take_append_drop (rcN s) (s.drop 4), e3]
    congr 1
    rw [List.drop_drop]
    conv => lhs; rw [← List.take_append_drop 4 (s.drop (4 + rcN s))]
    congr 1
    rw [List.drop_drop, hrl]
    congr 1
    omega
  · cases h
theorem fst1_short {r : List UInt8} {k : Nat} (hr : r.length ≤ 5000) (hk : k < r.length + 8) : fst1 ((frm r).take k) = none := by
  unfold fst1
  rw [if_neg]
  rintro ⟨h1, h2, h3, _⟩
  have hl : ((frm r).take k).length = k := by rw [List.length_take, frm_len]; omega
  rw [hl] at h1 h3
  have : rcN ((frm r).take k) = r.length := by
    unfold rcN
    rw [List.take_take, Nat.min_eq_left h1]
    unfold frm
    rw [List.take_left' (le4_len _), getN_le4 (by omega)]
  omega
theorem fst1_nil : fst1 [] = none := by unfold fst1; rw [if_neg]; rintro ⟨h, _⟩; simp at h

/-- At most k records at the front, and how many bytes they take. -/
def prs : Nat → List UInt8 → List (List UInt8) × Nat
  | 0, _ => ([], 0)
  | k + 1, s => match fst1 s with
    | none => ([], 0)
    | some r => (r :: (prs k (s.drop (8 + r.length))).1, 8 + r.length + (prs k (s.drop (8 + r.length))).2)
def frs (rs : List (List UInt8)) : List UInt8 := rs.flatMap frm
theorem frs_nil : frs [] = [] := rfl
theorem frs_cons (r : List UInt8) (rs : List (List UInt8)) : frs (r :: rs) = frm r ++ frs rs := by simp [frs]
theorem frs_snoc (rs : List (List UInt8)) (r : List UInt8) : frs (rs ++ [r]) = frs rs ++ frm r := by simp [frs]
theorem frs_bd {N : Nat} : ∀ {rs : List (List UInt8)}, (∀ r ∈ rs, r.length ≤ N) → (frs rs).length ≤ rs.length * (N + 8)
  | [], _ => by simp [frs]
  | r :: rs, h => by
    rw [frs_cons, List.length_append, frm_len, List.length_cons, Nat.succ_mul]
    have := frs_bd (rs := rs) (fun x hx => h x (List.mem_cons_of_mem _ hx))
    have := h r List.mem_cons_self
    omega
theorem prs_nil (k : Nat) : prs k [] = ([], 0) := by
  cases k with
  | zero => rfl
  | succ k => rw [prs, fst1_nil]
theorem prs_facts : ∀ (k : Nat) (s : List UInt8), (prs k s).1.length ≤ k ∧ (prs k s).2 ≤ s.length ∧ s.take (prs k s).2 = frs (prs k s).1 ∧ (∀ r ∈ (prs k s).1, r.length ≤ 5000) ∧ (prs k s).1.length * 8 ≤ s.length
  | 0, s => by simp [prs, frs]
  | k + 1, s => by
    rw [prs]
    cases h : fst1 s with
    | none => simp [frs]
    | some r =>
      obtain ⟨h1, h2, h3⟩ := fst1_sound h
      obtain ⟨i1, i2, i3, i4, i5⟩ := prs_facts k (s.drop (8 + r.length))
      rw [List.length_drop] at i2 i5
      refine ⟨by simp; omega, by simp only; omega, ?_, fun x hx => ?_, by simp only [List.length_cons]; omega⟩
      · simp only
        rw [frs_cons, ← i3]
        have e : (frm r).length = 8 + r.length := by rw [frm_len]; omega
        have h4 : s.take (8 + r.length + (prs k (s.drop (8 + r.length))).2) = (frm r ++ s.drop (8 + r.length)).take (8 + r.length + (prs k (s.drop (8 + r.length))).2) := by rw [← h3]
        rw [h4, ← e, List.take_append, List.take_of_length_le (by omega)]
        congr 2
        omega
      · rcases List.mem_cons.1 hx with rfl | hx
        · exact h1
        · exact i4 x hx
theorem prs_frs : ∀ (rs : List (List UInt8)) (k : Nat) (t : List UInt8), (∀ r ∈ rs, r.length ≤ 5000) → rs.length ≤ k → fst1 t = none → prs k (frs rs ++ t) = (rs, (frs rs).length)
  | [], k, t, _, _, ht => by
    cases k with
    | zero => rfl
    | succ k => rw [prs, frs_nil, List.nil_append, ht]; rfl
  | r :: rs, k, t, h, hk, ht => by
    cases k with
    | zero => simp at hk
    | succ k =>
      have hr := h r List.mem_cons_self
      have ih := prs_frs rs k t (fun x hx => h x (List.mem_cons_of_mem _ hx)) (by simpa using hk) ht
      have e : (frm r ++ (frs rs ++ t)).drop (8 + r.length) = frs rs ++ t := List.drop_left' (by rw [frm_len]; omega)
      rw [prs, frs_cons, List.append_assoc, fst1_frm hr]
      simp only [e, ih, List.length_append, frm_len]
      congr 1
      omega
/-- What is no whole record and begins as one: what a crash leaves of a frame. -/
def TornB (t : List UInt8) : Prop := t = [] ∨ ∃ r k, r.length ≤ 5000 ∧ k < r.length + 8 ∧ t = (frm r).take k
theorem TornB.none {t : List UInt8} (h : TornB t) : fst1 t = none := by
  rcases h with rfl | ⟨r, k, h1, h2, rfl⟩
  · exact fst1_nil
  · exact fst1_short h1 h2
theorem prs_torn {rs : List (List UInt8)} {t : List UInt8} (h : ∀ r ∈ rs, r.length ≤ 5000) (hl : rs.length ≤ 200) (ht : TornB t) : prs 200 (frs rs ++ t) = (rs, (frs rs).length) := prs_frs rs 200 t h hl ht.none
theorem prs_whole {rs : List (List UInt8)} (h : ∀ r ∈ rs, r.length ≤ 5000) (hl : rs.length ≤ 200) : prs 200 (frs rs) = (rs, (frs rs).length) := by
  have := prs_torn h hl (.inl rfl)
  rwa [List.append_nil] at this
end Go.Proofs.Ytkaikjlklhcnlaa
