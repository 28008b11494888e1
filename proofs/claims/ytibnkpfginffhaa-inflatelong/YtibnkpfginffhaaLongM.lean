/- A long run that is told by repeats: the plain mathematics. -/
import Derived.Test.YtibnkpfginffhaaEncM
import Derived.Test.YtibnkpfginffhaaInfZ
import Derived.Test.YtibnkpfginffhaaAllM
namespace Go.Proofs.Ytibnkpfginffhaa
open Go.RowKit
set_option linter.unusedVariables false

def rep13 : List Bool := [true, true, false, false, false, true, false, true, false, false, false, false, false]
def reps : Nat → List Bool
  | 0 => []
  | n + 1 => reps n ++ rep13
def long0 : List Bool := [true, true, false, false, false, true, true, false, false, false, false]
def long7 : List Bool := [false, false, false, false, false, false, false]
/-- The bits of the block. -/
def longB (n : Nat) : List Bool := long0 ++ reps n ++ long7
theorem reps_len : ∀ n, (reps n).length = 13 * n
  | 0 => rfl
  | n + 1 => by rw [reps, List.length_append, reps_len n]; simp [rep13]; omega
theorem longB_len (n : Nat) : (longB n).length = 18 + 13 * n := by
  unfold longB
  rw [List.length_append, List.length_append, reps_len]; simp [long0, long7]; omega
/-- Its tokens. -/
def longT (n : Nat) : List Tok := ⟨0, 0, 0⟩ :: List.replicate n ⟨0, 258, 1⟩
theorem code0 : codeS fixL 0 = [false, false, true, true, false, false, false, false] := by decide +kernel
theorem code285 : codeS fixL 285 = [true, true, false, false, false, true, false, true] := by decide +kernel
theorem code256 : codeS fixL 256 = [false, false, false, false, false, false, false] := by decide +kernel
theorem codeD0 : codeS fixD 0 = [false, false, false, false, false] := by decide +kernel
theorem no258 : noF 258 false = 28 := by decide +kernel
theorem no1 : noF 1 true = 0 := by decide +kernel
theorem enc13 : encT fixL fixD ⟨0, 258, 1⟩ = rep13 := by
  unfold encT
  rw [if_neg (by decide)]
  have h1 : symT ⟨0, 258, 1⟩ = 285 := by unfold symT; rw [if_neg (by decide)]; show 257 + noF 258 false = 285; rw [no258]
  have h2 : farT ⟨0, 258, 1⟩ = 0 := no1
  have h3 : szB (Int.toNat 258) false = [] := by show szB 258 false = []; unfold szB; rw [no258]; decide +kernel
  have h4 : szB (Int.toNat 1) true = [] := by show szB 1 true = []; unfold szB; rw [no1]; decide +kernel
  simp only [h1, h2, h3, h4, code285, codeD0]
  rfl
theorem encs_reps : ∀ n, encs fixL fixD (List.replicate n ⟨0, 258, 1⟩) = reps n
  | 0 => rfl
  | n + 1 => by rw [List.replicate_succ', encs_snoc, encs_reps n, enc13, reps]
theorem encs_long (n : Nat) : encs fixL fixD (longT n) = [false, false, true, true, false, false, false, false] ++ reps n := by
  unfold longT
  rw [encs_cons, encs_reps]
  show codeS fixL 0 ++ _ = _
  rw [code0]
theorem longB_eq (n : Nat) : longB n = [true, true, false] ++ (encs fixL fixD (longT n) ++ codeS fixL 256) := by
  rw [encs_long, code256]
  unfold longB long0 long7
  simp
theorem sayN_run (m : Nat) : ∀ k, sayN (List.replicate (m + 1) 0) 1 k = List.replicate (m + 1 + k) 0
  | 0 => rfl
  | k + 1 => by
    rw [sayN, sayN_run m k, List.length_replicate]
    have : (List.replicate (m + 1 + k) (0 : Nat)).getD (m + 1 + k - 1) 0 = 0 := by
      rw [List.getD_eq_getElem?_getD, List.getElem?_replicate]; split <;> rfl
    rw [this, ← List.replicate_succ', Nat.add_assoc]
theorem exp_reps (M : Int) : ∀ n m, ((m + 1 + 258 * n : Nat) : Int) ≤ M → expF M (List.replicate n ⟨0, 258, 1⟩) (List.replicate (m + 1) 0) = (List.replicate (m + 1 + 258 * n) 0, 0)
  | 0, m, h => rfl
  | n + 1, m, h => by
    have he : errT (List.replicate (m + 1) 0) M ⟨0, 258, 1⟩ = 0 := errT_mk (by decide) (by simp only [List.length_replicate]; omega) (by rw [List.length_replicate, show wid ⟨0, 258, 1⟩ = 258 from rfl]; omega)
    rw [List.replicate_succ, expF, if_pos he]
    have hs : sayT (List.replicate (m + 1) 0) ⟨0, 258, 1⟩ = List.replicate (m + 258 + 1) 0 := by
      unfold sayT
      rw [if_neg (by decide)]
      show sayN _ 1 258 = _
      rw [sayN_run, show m + 1 + 258 = m + 258 + 1 by omega]
    rw [hs, exp_reps M n (m + 258) (by omega), show m + 258 + 1 + 258 * n = m + 1 + 258 * (n + 1) by omega]
theorem exp_long (M : Int) (n : Nat) (h : ((1 + 258 * n : Nat) : Int) ≤ M) : expF M (longT n) [] = (List.replicate (1 + 258 * n) 0, 0) := by
  have he : errT [] M ⟨0, 0, 0⟩ = 0 := errT_mk (by decide) (by decide) (by rw [show wid ⟨0, 0, 0⟩ = 1 from rfl]; simp; omega)
  unfold longT
  rw [expF, if_pos he]
  have hs : sayT [] ⟨0, 0, 0⟩ = List.replicate (0 + 1) 0 := rfl
  rw [hs, exp_reps M n 0 (by omega), Nat.zero_add]
theorem fix_code (t : Tok) (h : t = ⟨0, 0, 0⟩ ∨ t = ⟨0, 258, 1⟩) : CodeT fixL fixD t := by
  rcases h with rfl | rfl
  · exact ⟨by decide, by decide +kernel, by decide +kernel, fun h => absurd rfl h⟩
  · have h1 : symT ⟨0, 258, 1⟩ = 285 := by unfold symT; rw [if_neg (by decide)]; show 257 + noF 258 false = 285; rw [no258]
    have h2 : farT ⟨0, 258, 1⟩ = 0 := no1
    exact ⟨by decide, by rw [h1]; decide +kernel, by rw [h1]; decide +kernel, fun _ => by rw [h2]; decide +kernel⟩
theorem longT_mem {n : Nat} {t : Tok} (h : t ∈ longT n) : t = ⟨0, 0, 0⟩ ∨ t = ⟨0, 258, 1⟩ := by
  rcases List.mem_cons.1 h with h | h
  · exact .inl h
  · exact .inr (List.eq_of_mem_replicate h)
theorem bF8_pack (l : List Bool) : BitsAt (bF8 (packS l)) 0 l := fun i hi => by
  unfold bF8
  rw [packS_data, packL_bit, Nat.zero_add]
/-- A stream that is one fixed block with these tokens. -/
theorem blks_fixed {f : Nat → Bool} {L most : Nat} {ts : List Tok} {O : List Nat} (hb : BitsAt f 0 ([true, true, false] ++ (encs fixL fixD ts ++ codeS fixL 256))) (hl : 3 + (encs fixL fixD ts).length + 7 ≤ L) (hc : ∀ t ∈ ts, CodeT fixL fixD t) (he : expF most ts [] = (O, 0)) (hn : ts.length ≤ L) :
    blksF f L most (L + 1) 0 0 [] = .ok ([⟨1, [], ts⟩], 3 + (encs fixL fixD ts).length + 7) := by
  have h7 : ln fixL 256 = 7 := by decide +kernel
  have b0 := hb.left
  have b1 := hb.right
  have t1 : tkF f L 0 1 = .ok 1 := tkF_low (by decide) (fun i hi => by
    rw [lowB_len] at hi
    obtain rfl : i = 0 := by omega
    exact b0 0 (by simp)) (by omega)
  have t2 : tkF f L (0 + 1) 2 = .ok 1 := tkF_low (by decide) (fun i hi => by
    rw [lowB_len] at hi
    rcases (show i = 0 ∨ i = 1 by omega) with rfl | rfl
    · exact b0 1 (by simp)
    · exact b0 2 (by simp)) (by omega)
  have hT := tksF_enc fixL_lens.1 fixL_lens.2.2 fixD_lens.1 fixD_lens.2.2 (ls := fixL) (ds := fixD) (by decide +kernel) (by rw [h7]; decide) (f := f) (L := L) (most := most) ts (L + 1) (0 + 3) 0 [] [] O rfl he hc b1 (by rw [h7]; omega) (by omega)
  rw [blksF, blkF, t1]
  simp only
  rw [t2]
  simp only
  rw [if_neg (by decide), if_pos trivial, hT]
  simp only [List.nil_append]
  rw [if_pos trivial, h7, Nat.zero_add]
theorem long_reads (n most : Nat) (hn : n ≤ 400) (hm : most ≤ 65536) : blksF (bF8 (packS (longB n))) (8 * (packS (longB n)).size) most (8 * (packS (longB n)).size + 1) 0 0 [] = if most < 1 + 258 * n then .error 2 else .ok ([⟨1, [], longT n⟩], 18 + 13 * n) := by
  have hsz := packS_size (longB n)
  rw [longB_len] at hsz
  have hle : (encs fixL fixD (longT n)).length = 8 + 13 * n := by rw [encs_long, List.length_append, reps_len]; rfl
  have hb := bF8_pack (longB n)
  rw [longB_eq] at hb
  rw [← longB_eq] at hb
  have hb' : BitsAt (bF8 (packS (longB n))) 0 ([true, true, false] ++ (encs fixL fixD (longT n) ++ codeS fixL 256)) := by rw [← longB_eq]; exact hb
  have hbig := blks_fixed (most := 1000000) hb' (L := 8 * (packS (longB n)).size) (by rw [hle]; omega) (fun t ht => fix_code t (longT_mem ht)) (exp_long _ n (by omega)) (by unfold longT; rw [List.length_cons, List.length_replicate]; omega)
  rw [hle, show 3 + (8 + 13 * n) + 7 = 18 + 13 * n by omega] at hbig
  obtain ⟨o, new, h1, h2, h3, h4, h5⟩ := blksF_says (Nat.le_refl _) _ _ _ _ _ _ (Nat.zero_le _) hbig
  rw [List.nil_append] at h1
  subst h1
  obtain ⟨O', e1, e2⟩ := h2 [] rfl
  have hj : jkP [⟨1, [], longT n⟩] = longT n := by simp [jkP, bkP]
  rw [hj, exp_long _ n (by omega)] at e1
  have ho : o = 1 + 258 * n := by
    have := congrArg (fun x => x.1.length) e1
    simp only [List.length_replicate] at this
    omega
  subst ho
  have := h5 most (Nat.zero_le _)
  split
  · exact this.2 (by omega)
  · exact this.1 (by omega)
theorem jkP_long (n : Nat) : jkP [⟨1, [], longT n⟩] = longT n := by simp [jkP, bkP]
end Go.Proofs.Ytibnkpfginffhaa
