/- A row of integers that is read. Codes by their lengths: plain mathematics, no program. -/
import Derived.Test.YthkppipdflmekaaRows
import Derived.Test.YthkppipdflmekaaQBitioM
import Derived.Laws.OwnMore
import Derived.Laws.AppendOwnNone
import Derived.WalkSmall
import Derived.Deep.MidRow
import Derived.Laws.BitsAllLaws
namespace Go.Proofs.Ythkppipdflmekaa
open Go.RowKit
set_option linter.unusedVariables false

/-- v is a slice (not nil) of these integers. -/
def IR (w : World) (v : Value) (zs : List Int) : Prop := ∃ g cap, v = .slice (some ⟨g, 0, none⟩) zs.length cap ∧ g < w.heap.size ∧ ∀ i, i < zs.length → w.cell? ⟨g, i, none⟩ = some (.int .i64 (zs.getD i 0))
theorem IR.below {w w' : World} {v : Value} {zs : List Int} (h : IR w v zs) (hb : Below w.heap.size w w') : IR w' v zs := by
  obtain ⟨g, cap, rfl, hg, hc⟩ := h
  exact ⟨g, cap, rfl, Nat.lt_of_lt_of_le hg hb.size, fun i hi => by rw [hb.cell (p := ⟨g, i, none⟩) hg]; exact hc i hi⟩
theorem IR.kept {w w' : World} {v : Value} {zs : List Int} {row : Option Nat} (h : IR w v zs) (hg : w.grownBy w' row) (hne : v.ownBlock ≠ row) : IR w' v zs := by
  obtain ⟨g, cap, rfl, hgl, hc⟩ := h
  exact ⟨g, cap, rfl, Nat.lt_of_lt_of_le hgl hg.size, fun i hi => hg.cell (hc i hi) (by simpa [Value.ownBlock] using hne)⟩
theorem IR.drewN {w : World} {v : Value} {zs : List Int} (h : IR w v zs) (n : Nat) : IR (w.drewN n) v zs := h
/-- v is a slice (not nil) of these integers, at whatever place of its row. -/
def IQ (w : World) (v : Value) (zs : List Int) : Prop := ∃ g o cap, v = .slice (some ⟨g, o, none⟩) zs.length cap ∧ g < w.heap.size ∧ ∀ i, i < zs.length → w.cell? ⟨g, o + i, none⟩ = some (.int .i64 (zs.getD i 0))
theorem IR.io {w : World} {v : Value} {zs : List Int} (h : IR w v zs) : IQ w v zs := by
  obtain ⟨g, cap, h1, h2, h3⟩ := h
  exact ⟨g, 0, cap, h1, h2, fun i hi => by rw [Nat.zero_add]; exact h3 i hi⟩
theorem IQ.below {w w' : World} {v : Value} {zs : List Int} (h : IQ w v zs) (hb : Below w.heap.size w w') : IQ w' v zs := by
  obtain ⟨g, o, cap, rfl, hg, hc⟩ := h
  exact ⟨g, o, cap, rfl, Nat.lt_of_lt_of_le hg hb.size, fun i hi => by rw [hb.cell (p := ⟨g, o + i, none⟩) hg]; exact hc i hi⟩
/-- These integers as cells. -/
def ic (zs : List Int) : List Value := zs.map (Value.int .i64)
theorem ic_len (zs : List Int) : (ic zs).length = zs.length := by simp [ic]
theorem ic_at (zs : List Int) (i : Nat) (h : i < zs.length) : (ic zs)[i]? = some (.int .i64 (zs.getD i 0)) := by
  simp [ic, List.getElem?_eq_getElem h, List.getD_eq_getElem?_getD]
theorem ic_one (zs : List Int) : ∀ v ∈ ic zs, v.oneCell' = true := by
  intro v hv
  simp [ic] at hv
  obtain ⟨z, _, rfl⟩ := hv
  rfl
theorem Try.infoI : (Try.prog.info? 3).map (fun i => (i.zero, i.size, i.bytes)) = some (some (.int .i64 0), 1, 8) := by kernel_rfl
theorem IR.of {w : World} {B n : Nat} {v : Value} {zs : List Int} (h : w.ownsRow B 3 1 v n (ic zs)) (hne : ¬ v = .slice none 0 0) : IR w v zs := by
  have hl := h.1
  rw [ic_len, Nat.mul_one] at hl
  subst hl
  have hlt := h.lt
  rcases h.2 with ⟨q, _⟩ | ⟨g, cap, cur, rfl, _⟩
  · exact absurd q hne
  · exact ⟨g, cap, rfl, (hlt g rfl).2, fun i hi => by rw [h.cellAt i (by omega), ic_at _ _ hi]⟩
end Go.Proofs.Ythkppipdflmekaa
namespace Go.Proofs.Ythkppipdflmekaa
open Go
set_option linter.unusedVariables false

/-- The length of symbol i. -/
def ln (ns : List Nat) (i : Nat) : Nat := ns.getD i 0
/-- How many of the first k are above 0. -/
def usedK (ns : List Nat) : Nat → Nat
  | 0 => 0
  | k + 1 => usedK ns k + if 0 < ln ns k then 1 else 0
/-- The parts (of 32768) that those of the first k take that meet p. -/
def partP (ns : List Nat) (p : Nat → Bool) : Nat → Nat
  | 0 => 0
  | k + 1 => partP ns p k + if 0 < ln ns k ∧ p k = true then 2 ^ (15 - ln ns k) else 0
def all15 (ns : List Nat) : Prop := ∀ n ∈ ns, n ≤ 15
theorem all15.at {ns : List Nat} (h : all15 ns) (i : Nat) : ln ns i ≤ 15 := by
  unfold ln
  rw [List.getD_eq_getElem?_getD]
  by_cases hi : i < ns.length
  · rw [List.getElem?_eq_getElem hi]; exact h _ (List.getElem_mem hi)
  · rw [List.getElem?_eq_none (by omega)]; exact Nat.zero_le _
theorem partP_mono (ns : List Nat) {p q : Nat → Bool} (h : ∀ t, p t = true → q t = true) : ∀ k, partP ns p k ≤ partP ns q k
  | 0 => Nat.le_refl _
  | k + 1 => by
    have := partP_mono ns h k
    rw [partP, partP]
    by_cases h1 : 0 < ln ns k ∧ p k = true
    · rw [if_pos h1, if_pos ⟨h1.1, h k h1.2⟩]; omega
    · rw [if_neg h1]; omega
/-- One more symbol that wasn't among them. -/
theorem partP_more (ns : List Nat) {p q : Nat → Bool} (h : ∀ t, p t = true → q t = true) (s : Nat) (hs : 0 < ln ns s) (hp : p s = false) (hq : q s = true) :
    ∀ k, s < k → partP ns p k + 2 ^ (15 - ln ns s) ≤ partP ns q k
  | 0, hk => by omega
  | k + 1, hk => by
    by_cases e : s = k
    · subst e
      have := partP_mono ns h s
      rw [partP, partP, if_neg (by rw [hp]; simp), if_pos ⟨hs, hq⟩]; omega
    · have := partP_more ns h s hs hp hq k (by omega)
      rw [partP, partP]
      by_cases h1 : 0 < ln ns k ∧ p k = true
      · rw [if_pos h1, if_pos ⟨h1.1, h k h1.2⟩]; omega
      · rw [if_neg h1]; omega
/-- All of them. -/
def allP (ns : List Nat) (k : Nat) : Nat := partP ns (fun _ => true) k
/-- Do lengths fit? -/
def fitB (ns : List Nat) : Bool := if usedK ns ns.length = 0 then true else if usedK ns ns.length = 1 then allP ns ns.length == 16384 else allP ns ns.length == 32768
theorem allP_pos (ns : List Nat) : ∀ k, usedK ns k = 0 → allP ns k = 0
  | 0, _ => rfl
  | k + 1, h => by
    rw [usedK] at h
    have h1 := allP_pos ns k (by omega)
    have h2 : ¬ 0 < ln ns k := fun hh => by rw [if_pos hh] at h; omega
    unfold allP at h1 ⊢
    rw [partP, h1, if_neg (by intro hh; exact h2 hh.1)]
theorem fitB_le (ns : List Nat) (h : fitB ns = true) : allP ns ns.length ≤ 32768 := by
  unfold fitB at h
  split at h
  · rename_i h0; rw [allP_pos _ _ h0]; decide
  · split at h
    · have : allP ns ns.length = 16384 := by simpa using h
      omega
    · have : allP ns ns.length = 32768 := by simpa using h
      omega
/-- t stands ahead of s of length n: a shorter code, or an equal one of a lower symbol. -/
def ahead (ns : List Nat) (n s t : Nat) : Bool := decide (ln ns t < n) || (decide (ln ns t = n) && decide (t < s))
theorem ahead_iff {ns : List Nat} {n s t : Nat} : ahead ns n s t = true ↔ ln ns t < n ∨ (ln ns t = n ∧ t < s) := by unfold ahead; simp
theorem ahead_not {ns : List Nat} {n s t : Nat} : ahead ns n s t = false ↔ ¬ (ln ns t < n ∨ (ln ns t = n ∧ t < s)) := by rw [← ahead_iff]; simp
/-- The code's number, as far as the first k symbols tell it. -/
def cdK (ns : List Nat) (n s : Nat) : Nat → Nat
  | 0 => 0
  | k + 1 => cdK ns n s k + if 0 < ln ns k ∧ ahead ns n s k = true then 2 ^ (n - ln ns k) else 0
def cd (ns : List Nat) (n s : Nat) : Nat := cdK ns n s ns.length
theorem cdK_le (ns : List Nat) (n s : Nat) (hn : n ≤ 15) : ∀ k, cdK ns n s k ≤ k * 16384
  | 0 => Nat.zero_le _
  | k + 1 => by
    have := cdK_le ns n s hn k
    rw [cdK]
    by_cases h : 0 < ln ns k ∧ ahead ns n s k = true
    · rw [if_pos h]
      have h14 : 2 ^ (n - ln ns k) ≤ 16384 := Nat.pow_le_pow_right (n := 2) (i := n - ln ns k) (j := 14) (by decide) (by omega)
      omega
    · rw [if_neg h, Nat.add_zero, Nat.succ_mul]; exact Nat.le_trans this (Nat.le_add_right _ _)
/-- A code times what it takes is what stands ahead of it. -/
theorem cdK_part (ns : List Nat) (n s : Nat) (hn : n ≤ 15) : ∀ k, cdK ns n s k * 2 ^ (15 - n) = partP ns (ahead ns n s) k
  | 0 => by simp [cdK, partP]
  | k + 1 => by
    rw [cdK, partP, Nat.add_mul, cdK_part ns n s hn k]
    congr 1
    by_cases h : 0 < ln ns k ∧ ahead ns n s k = true
    · rw [if_pos h, if_pos h, ← Nat.pow_add]
      congr 1
      have : ln ns k ≤ n := by
        have := ahead_iff.1 h.2
        omega
      omega
    · rw [if_neg h, if_neg h]; simp
theorem ahead_self (ns : List Nat) (s : Nat) : ahead ns (ln ns s) s s = false := by rw [ahead_not]; omega
theorem ahead_trans (ns : List Nat) (s t u : Nat) (h : ahead ns (ln ns s) s t = true) (k : ahead ns (ln ns t) t u = true) : ahead ns (ln ns s) s u = true := by
  rw [ahead_iff] at *
  omega
/-- The code that stands ahead ends where the other begins, or ahead of it. -/
theorem cd_before (ns : List Nat) (h15 : all15 ns) (s t : Nat) (ht : t < ns.length) (hp : 0 < ln ns t) (h : ahead ns (ln ns s) s t = true) :
    (cd ns (ln ns t) t + 1) * 2 ^ (15 - ln ns t) ≤ cd ns (ln ns s) s * 2 ^ (15 - ln ns s) := by
  unfold cd
  rw [Nat.add_mul, cdK_part ns _ t (h15.at t), cdK_part ns _ s (h15.at s), Nat.one_mul]
  exact partP_more ns (fun u hu => ahead_trans ns s t u h hu) t hp (ahead_self ns t) h _ ht
theorem cd_end (ns : List Nat) (h15 : all15 ns) (s : Nat) (hs : s < ns.length) (hp : 0 < ln ns s) : (cd ns (ln ns s) s + 1) * 2 ^ (15 - ln ns s) ≤ allP ns ns.length := by
  unfold cd
  rw [Nat.add_mul, cdK_part ns _ s (h15.at s), Nat.one_mul]
  exact partP_more ns (fun _ _ => rfl) s hp (ahead_self ns s) rfl _ hs
/-- A code has no more bits than its length. -/
theorem cd_lt (ns : List Nat) (h15 : all15 ns) (hf : fitB ns = true) (s : Nat) (hs : s < ns.length) (hp : 0 < ln ns s) : cd ns (ln ns s) s < 2 ^ ln ns s := by
  have h1 := cd_end ns h15 s hs hp
  have h2 := fitB_le ns hf
  have h3 := h15.at s
  have e : 32768 = 2 ^ ln ns s * 2 ^ (15 - ln ns s) := by rw [← Nat.pow_add, show ln ns s + (15 - ln ns s) = 15 by omega]
  rw [e] at h2
  have := Nat.le_of_mul_le_mul_right (Nat.le_trans h1 h2) (Nat.two_pow_pos _)
  omega
theorem ahead_total (ns : List Nat) (s t : Nat) (h : s ≠ t) : ahead ns (ln ns s) s t = true ∨ ahead ns (ln ns t) t s = true := by
  rw [ahead_iff, ahead_iff]
  omega
/-- The shorter one of two codes doesn't begin the other. -/
theorem cd_apart (ns : List Nat) (h15 : all15 ns) (s t : Nat) (ht : t < ns.length) (hp : 0 < ln ns t) (h : ahead ns (ln ns s) s t = true) : cd ns (ln ns t) t < cd ns (ln ns s) s / 2 ^ (ln ns s - ln ns t) := by
  have h1 := cd_before ns h15 s t ht hp h
  have hle : ln ns t ≤ ln ns s := by have := ahead_iff.1 h; omega
  have h3 := h15.at s
  have e : 2 ^ (15 - ln ns t) = 2 ^ (ln ns s - ln ns t) * 2 ^ (15 - ln ns s) := by rw [← Nat.pow_add]; congr 1; omega
  rw [e, ← Nat.mul_assoc] at h1
  have h4 := Nat.le_of_mul_le_mul_right h1 (Nat.two_pow_pos _)
  exact (Nat.le_div_iff_mul_le (Nat.two_pow_pos _)).2 h4
/-! ### The order in which they are reckoned -/
theorem cd_next (ns : List Nat) (n i : Nat) (hn : 0 < n) (hi : i < ns.length) : cd ns n (i + 1) = cd ns n i + if ln ns i = n then 1 else 0 := by
  have key : ∀ k, cdK ns n (i + 1) k = cdK ns n i k + if i < k ∧ ln ns i = n then 1 else 0 := by
    intro k
    induction k with
    | zero => simp [cdK]
    | succ k ih =>
      rw [cdK, cdK, ih]
      by_cases e : k = i
      · subst e
        rw [if_neg (show ¬ (k < k ∧ ln ns k = n) by omega)]
        by_cases h : ln ns k = n
        · rw [if_pos (show 0 < ln ns k ∧ ahead ns n (k + 1) k = true from ⟨by omega, ahead_iff.2 (by omega)⟩), if_neg (show ¬ (0 < ln ns k ∧ ahead ns n k k = true) from fun hh => by have := ahead_iff.1 hh.2; omega), if_pos (show k < k + 1 ∧ ln ns k = n by omega), h, Nat.sub_self]
        · rw [if_neg (show ¬ (k < k + 1 ∧ ln ns k = n) by omega)]
          by_cases h2 : 0 < ln ns k ∧ ahead ns n k k = true
          · have := ahead_iff.1 h2.2
            rw [if_pos h2, if_pos ⟨h2.1, ahead_iff.2 (by omega)⟩]; omega
          · rw [if_neg h2, if_neg (fun hh => h2 ⟨hh.1, ahead_iff.2 (by have := ahead_iff.1 hh.2; omega)⟩)]
      · have a1 : (if 0 < ln ns k ∧ ahead ns n (i + 1) k = true then 2 ^ (n - ln ns k) else 0) = if 0 < ln ns k ∧ ahead ns n i k = true then 2 ^ (n - ln ns k) else 0 := by
          by_cases h2 : 0 < ln ns k ∧ ahead ns n i k = true
          · have := ahead_iff.1 h2.2
            rw [if_pos h2, if_pos ⟨h2.1, ahead_iff.2 (by omega)⟩]
          · rw [if_neg h2, if_neg (fun hh => h2 ⟨hh.1, ahead_iff.2 (by have := ahead_iff.1 hh.2; omega)⟩)]
        rw [a1]
        by_cases h3 : i < k ∧ ln ns i = n
        · rw [if_pos h3, if_pos (show i < k + 1 ∧ ln ns i = n by omega)]; omega
        · rw [if_neg h3, if_neg (show ¬ (i < k + 1 ∧ ln ns i = n) by omega)]
          omega
  unfold cd
  rw [key]
  by_cases h : ln ns i = n
  · rw [if_pos ⟨hi, h⟩, if_pos h]
  · rw [if_neg (fun hh => h hh.2), if_neg h]
theorem cd_round (ns : List Nat) (n : Nat) : cd ns (n + 1) 0 = 2 * cd ns n ns.length := by
  have key : ∀ k, k ≤ ns.length → cdK ns (n + 1) 0 k = 2 * cdK ns n ns.length k := by
    intro k
    induction k with
    | zero => intro _; simp [cdK]
    | succ k ih =>
      intro hk
      rw [cdK, cdK, ih (by omega)]
      have a1 : ahead ns (n + 1) 0 k = ahead ns n ns.length k := by
        rw [Bool.eq_iff_iff, ahead_iff, ahead_iff]; omega
      rw [a1]
      by_cases h : 0 < ln ns k ∧ ahead ns n ns.length k = true
      · rw [if_pos h, if_pos h]
        have hle : ln ns k ≤ n := by have := ahead_iff.1 h.2; omega
        rw [show n + 1 - ln ns k = n - ln ns k + 1 by omega, Nat.pow_succ]; omega
      · rw [if_neg h, if_neg h]; omega
  exact key _ (Nat.le_refl _)
theorem cd_zero (ns : List Nat) : cd ns 0 ns.length = 0 := by
  have key : ∀ k, cdK ns 0 ns.length k = 0 := by
    intro k
    induction k with
    | zero => rfl
    | succ k ih =>
      rw [cdK, ih, if_neg]
      intro h
      have := ahead_iff.1 h.2
      omega
  exact key _
end Go.Proofs.Ythkppipdflmekaa
