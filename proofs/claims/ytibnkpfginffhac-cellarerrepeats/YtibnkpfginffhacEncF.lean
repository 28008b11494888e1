/- A stream that is one block of fixed codes: the plain mathematics. -/
import Derived.Test.YtibnkpfginffhacEncM
import Derived.Test.YtibnkpfginffhacInfF
import Derived.Test.YtibnkpfginffhacAllM
namespace Go.Proofs.Ytibnkpfginffhac
open Go.RowKit
set_option linter.unusedVariables false

theorem bF8_pack (l : List Bool) : BitsAt (bF8 (packS l)) 0 l := fun i hi => by
  unfold bF8
  rw [packS_data, packL_bit, Nat.zero_add]
/-- A stream that is one fixed block with these tokens. -/
theorem blks_fixed {f : Nat → Bool} {L most : Nat} {ts : List Tok} {O : List Nat} (hb : BitsAt f 0 ([true, true, false] ++ (encs fixL fixD ts ++ codeS fixL 256))) (hl : 3 + (encs fixL fixD ts).length + 7 ≤ L) (hc : ∀ t ∈ ts, CodeT fixL fixD t) (he : expF most ts [] = (O, 0)) (hn : ts.length ≤ L) :
    blksF f L most (L + 1) 0 0 [] = .ok ([⟨1, [], ts⟩], 3 + (encs fixL fixD ts).length + 7) := by
  have h7 : ln fixL 256 = 7 := by decide +kernel
  have b0 := hb.left
  have b1 := hb.right
  have t1 : tkF f L 0 1 = .ok 1 := tkF_low (by decide) (fun i hi => by
    rw [lowB_len] at hi
    obtain rfl : i = 0 := by omega
    exact b0 0 (by simp)) (by omega)
  have t2 : tkF f L (0 + 1) 2 = .ok 1 := tkF_low (by decide) (fun i hi => by
    rw [lowB_len] at hi
    rcases (show i = 0 ∨ i = 1 by omega) with rfl | rfl
    · exact b0 1 (by simp)
    · exact b0 2 (by simp)) (by omega)
  have hT := tksF_enc fixL_lens.1 fixL_lens.2.2 fixD_lens.1 fixD_lens.2.2 (ls := fixL) (ds := fixD) (by decide +kernel) (by rw [h7]; decide) (f := f) (L := L) (most := most) ts (L + 1) (0 + 3) 0 [] [] O rfl he hc b1 (by rw [h7]; omega) (by omega)
  rw [blksF, blkF, t1]
  simp only
  rw [t2]
  simp only
  rw [if_neg (by decide), if_pos trivial, hT]
  simp only [List.nil_append]
  rw [if_pos trivial, h7, Nat.zero_add]
theorem fixL_pos (i : Nat) (h : i < 288) : 0 < ln fixL i := by
  have key : ∀ i : Fin 288, 0 < ln fixL i.val := by decide +kernel
  exact key ⟨i, h⟩
theorem fixD_pos (i : Nat) (h : i < 32) : 0 < ln fixD i := by
  have key : ∀ i : Fin 32, 0 < ln fixD i.val := by decide +kernel
  exact key ⟨i, h⟩
theorem fixed_code {t : Tok} (h : isTok t = true) (hb : t.b < 256) : CodeT fixL fixD t := by
  have l1 : fixL.length = 288 := by decide +kernel
  have l2 : fixD.length = 32 := by decide +kernel
  by_cases h0 : t.l = 0
  · have e : symT t = t.b := by unfold symT; rw [if_pos h0]
    exact ⟨hb, by omega, fixL_pos _ (by omega), fun h => absurd h0 h⟩
  · obtain ⟨_, h3, h258, h1, h32⟩ := isTok_rep h0 h
    have e : symT t = 257 + noF t.l.toNat false := by unfold symT; rw [if_neg h0]
    have n1 := (noF_near (x := t.l.toNat) (by omega) (by omega)).1
    have m1 := (noF_far (x := t.d.toNat) (by omega) (by omega)).1
    have e2 : farT t = noF t.d.toNat true := rfl
    exact ⟨hb, by omega, fixL_pos _ (by omega), fun _ => ⟨by omega, fixD_pos _ (by omega)⟩⟩
theorem encT_le {ls ds : List Nat} (hl : all15 ls) (hd : all15 ds) (t : Tok) : (encT ls ds t).length ≤ 60 := by
  have h1 := hl.at (symT t)
  have h2 := hd.at (farT t)
  have s1 := (szF_bd false (noF t.l.toNat false)).2
  have s2 := (szF_bd true (noF t.d.toNat true)).2
  unfold encT szB
  split <;> simp only [List.length_append, codeS_len, lowB_len] <;> omega
theorem encs_le {ls ds : List Nat} (hl : all15 ls) (hd : all15 ds) : ∀ ts : List Tok, (encs ls ds ts).length ≤ 60 * ts.length
  | [] => Nat.zero_le _
  | t :: ts => by
    have := encs_le hl hd ts
    have := encT_le hl hd t
    rw [encs_cons, List.length_append, List.length_cons]; omega
theorem encT_ge {t : Tok} (h : isTok t = true) (hb : t.b < 256) : 1 ≤ (encT fixL fixD t).length := by
  have hc := (fixed_code h hb).2.2.1
  unfold encT
  split
  · rw [codeS_len]; omega
  · rw [List.length_append, codeS_len]; omega
theorem encs_ge : ∀ {ts : List Tok}, (∀ t ∈ ts, isTok t = true ∧ t.b < 256) → ts.length ≤ (encs fixL fixD ts).length
  | [], _ => Nat.zero_le _
  | t :: ts, h => by
    have h1 := encs_ge (ts := ts) fun u hu => h u (List.mem_cons_of_mem _ hu)
    have h2 := encT_ge (h t (List.mem_cons_self ..)).1 (h t (List.mem_cons_self ..)).2
    rw [encs_cons, List.length_append, List.length_cons]; omega
/-- The number, the least size and the further bits that a search finds among the first K. -/
def bmK (x : Nat) (far : Bool) (z : Nat × Nat × Nat) : Nat → Nat × Nat × Nat
  | 0 => z
  | K + 1 => if (szF K far).1 ≤ x then (K, (szF K far).1, (szF K far).2) else bmK x far z K
theorem bmK_last (x : Nat) (far : Bool) (z : Nat × Nat × Nat) (h : (szF 0 far).1 ≤ x) : ∀ K, bmK x far z (K + 1) = (lastK x far (K + 1), (szF (lastK x far (K + 1)) far).1, (szF (lastK x far (K + 1)) far).2)
  | 0 => by rw [bmK, lastK, if_pos h, if_pos h]
  | K + 1 => by
    have ih := bmK_last x far z h K
    rw [bmK, lastK]
    split
    · rfl
    · exact ih
theorem bmK_near (x : Nat) (z : Nat × Nat × Nat) (h : 3 ≤ x) : bmK x false z 29 = (noF x false, (szF (noF x false) false).1, (szF (noF x false) false).2) := bmK_last x false z h 28
theorem bmK_far (x : Nat) (z : Nat × Nat × Nat) (h : 1 ≤ x) : bmK x true z 30 = (noF x true, (szF (noF x true) true).1, (szF (noF x true) true).2) := bmK_last x true z h 29
theorem bmK_le (x : Nat) (far : Bool) (z : Nat × Nat × Nat) (hz : z.1 ≤ 30 ∧ z.2.1 ≤ 24577 ∧ z.2.2 ≤ 13) : ∀ K, K ≤ 30 → (bmK x far z K).1 ≤ 30 ∧ (bmK x far z K).2.1 ≤ 24577 ∧ (bmK x far z K).2.2 ≤ 13
  | 0, _ => hz
  | K + 1, h => by
    rw [bmK]
    split
    · have := szF_bd far K
      exact ⟨by omega, this.1, this.2⟩
    · exact bmK_le x far z hz K (by omega)
end Go.Proofs.Ytibnkpfginffhac
