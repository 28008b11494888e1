/- Lengths as integers; of three weights the last has one bit: plain mathematics, no program. -/
import Derived.Test.YtclmjopppaknjaaHLen
import Derived.Test.YtclmjopppaknjaaHuffC
namespace Go.Proofs.Ytclmjopppaknjaa
open Go
set_option linter.unusedVariables false

/-- A later symbol's length is never the greater one. -/
theorem outK_mono (ws : List Nat) {j k : Nat} (h : j ≤ k) : ∀ i c, outK ws k i c ≤ outK ws j i c
  | 0, c => Nat.le_refl _
  | i + 1, c => by
    have := outK_mono ws h i (nextC ws i c)
    rw [outK, outK]
    by_cases h1 : k < ones (rowK ws (i + 1)) c
    · rw [if_pos h1, if_pos (by omega)]; omega
    · rw [if_neg h1]; omega
theorem lenK_mono (ws : List Nat) (m : Nat) {j k : Nat} (h : j ≤ k) : lenK ws m k ≤ lenK ws m j := outK_mono ws h _ _
/-- Of three the last has one bit. -/
theorem len3 {ws : List Nat} (hR : Rising ws) (h3 : ws.length = 3) : lenK ws 15 2 = 1 := by
  have hw := lenK_whole (most := 15) hR (by omega) (by omega) (by rw [h3]; decide)
  have hp := lenK_pos (most := 15) (j := 2) hR (by omega) (by omega) (by rw [h3]; decide) (by omega)
  have m1 := lenK_mono ws 15 (show 1 ≤ 2 by omega)
  have m0 := lenK_mono ws 15 (show 0 ≤ 2 by omega)
  rw [h3] at hw
  simp only [sumK] at hw
  by_cases h : lenK ws 15 2 = 1
  · exact h
  · exfalso
    have e2 : 2 ^ (15 - lenK ws 15 2) ≤ 2 ^ 13 := Nat.pow_le_pow_right (by decide) (by omega)
    have e1 : 2 ^ (15 - lenK ws 15 1) ≤ 2 ^ 13 := Nat.pow_le_pow_right (by decide) (by omega)
    have e0 : 2 ^ (15 - lenK ws 15 0) ≤ 2 ^ 13 := Nat.pow_le_pow_right (by decide) (by omega)
    omega
theorem codes_awake (ss : List Nat) (h : RisP [5, 1, 1, 0] ss) : (lensOf [5, 1, 1, 0] ss 15).getD 0 0 = 1 := by
  have hp : ss.Perm [0, 1, 2] := h.perm
  have hl : ss.length = 3 := hp.length_eq
  have hnd : ss.Nodup := hp.nodup_iff.2 (by decide)
  have hr := h.rise
  have hmem : ∀ i, i ∈ ss ↔ i = 0 ∨ i = 1 ∨ i = 2 := fun i => by rw [hp.mem_iff]; simp
  match ss, hl with
  | [a, b, c], _ =>
    have ha := (hmem a).1 (by simp)
    have hb := (hmem b).1 (by simp)
    have hc := (hmem c).1 (by simp)
    have h0 := (hmem 0).2 (.inl rfl)
    have hc0 : c = 0 := by
      simp only [List.mem_cons, List.not_mem_nil, or_false] at h0
      simp only [List.map_cons, List.map_nil, Rising, List.mem_cons, List.not_mem_nil, or_false] at hr
      simp only [List.nodup_cons, List.mem_cons, List.not_mem_nil, or_false, not_or] at hnd
      rcases h0 with h0 | h0 | h0
      · subst h0
        have := hr.1 _ (.inl rfl)
        rcases hb with rfl | rfl | rfl
        · exact absurd rfl hnd.1.1
        · simp at this
        · simp at this
      · subst h0
        have := hr.2.1 _ rfl
        rcases hc with rfl | rfl | rfl
        · rfl
        · simp at this
        · simp at this
      · exact h0.symm
    have hin := putL_in [a, b, c] (lenF [5, 1, 1, 0] [a, b, c] 15) 4 hnd (fun i hi => by have := (hmem i).1 hi; omega) 3 (Nat.le_refl _) 2 (by omega)
    have e : (lensOf [5, 1, 1, 0] [a, b, c] 15).getD 0 0 = lenF [5, 1, 1, 0] [a, b, c] 15 2 := by
      subst hc0; exact hin
    rw [e]
    unfold lenF
    rw [if_neg (by simp)]
    exact len3 h.rise (by simp [wOf])
/-- Lengths as integers. -/
def zOf (ns : List Nat) : List Int := ns.map fun n : Nat => (n : Int)
theorem zOf_len (ns : List Nat) : (zOf ns).length = ns.length := by simp [zOf]
theorem zOf_toN (ns : List Nat) : toN (zOf ns) = ns := by
  unfold toN zOf
  rw [List.map_map]
  conv => rhs; rw [← List.map_id ns]
  exact List.map_congr_left fun i _ => by simp
theorem zOf_nc (ns : List Nat) : nc ns = ic (zOf ns) := by unfold nc ic zOf; rw [List.map_map]; rfl
theorem zOf_err {zs : List Int} {m : Nat} {ns : List Nat} (h : LenP zs m ns) (hm : m ≤ 15) (hl : zs.length ≤ 320) : errN (zOf ns) = 0 := by
  refine errN_ok (by rw [zOf_len, h.len]; omega) ?_ (by rw [zOf_toN]; exact h.fit)
  intro i hi
  rw [zOf_len] at hi
  have e : (zOf ns).getD i 0 = (ns.getD i 0 : Int) := by simp [zOf, List.getD_eq_getElem?_getD, List.getElem?_eq_getElem hi]
  have := h.le i
  rw [e]
  omega
end Go.Proofs.Ytclmjopppaknjaa
