/- Tokens that are written by codes are read again: the plain mathematics. -/
import Derived.Test.YtibnkpfginffhacInfM
namespace Go.Proofs.Ytibnkpfginffhac
open Go.RowKit
set_option linter.unusedVariables false

/-- These bits stand at a place. -/
def BitsAt (f : Nat → Bool) (p : Nat) (l : List Bool) : Prop := ∀ i, i < l.length → f (p + i) = l.getD i false
theorem BitsAt.left {f : Nat → Bool} {p : Nat} {a b : List Bool} (h : BitsAt f p (a ++ b)) : BitsAt f p a := fun i hi => by
  rw [h i (by rw [List.length_append]; omega), List.getD_eq_getElem?_getD, List.getD_eq_getElem?_getD, List.getElem?_append_left hi]
theorem BitsAt.right {f : Nat → Bool} {p : Nat} {a b : List Bool} (h : BitsAt f p (a ++ b)) : BitsAt f (p + a.length) b := fun i hi => by
  rw [Nat.add_assoc, h (a.length + i) (by rw [List.length_append]; omega), List.getD_eq_getElem?_getD, List.getD_eq_getElem?_getD, List.getElem?_append_right (by omega), Nat.add_sub_cancel_left]
theorem BitsAt.app {f : Nat → Bool} {p : Nat} {a b : List Bool} (h : BitsAt f p a) (k : BitsAt f (p + a.length) b) : BitsAt f p (a ++ b) := fun i hi => by
  rw [List.length_append] at hi
  by_cases hl : i < a.length
  · rw [h i hl, List.getD_eq_getElem?_getD, List.getD_eq_getElem?_getD, List.getElem?_append_left hl]
  · have := k (i - a.length) (by omega)
    rw [show p + a.length + (i - a.length) = p + i by omega] at this
    rw [this, List.getD_eq_getElem?_getD, List.getD_eq_getElem?_getD, List.getElem?_append_right (by omega)]
theorem bitsAt_pf {f : Nat → Bool} {p n : Nat} {l : List Bool} (h : BitsAt f p l) (hn : n ≤ l.length) : pfB (fun i => f (p + i)) n = l.take n := by
  apply List.ext_getElem?
  intro i
  unfold pfB
  rw [List.getElem?_take]
  by_cases hi : i < n
  · rw [if_pos hi, List.getElem?_map, List.getElem?_range hi]
    simp only [Option.map_some]
    rw [h i (by omega), List.getD_eq_getElem?_getD, List.getElem?_eq_getElem (by omega)]; rfl
  · rw [if_neg hi, List.getElem?_eq_none (by simp; omega)]
/-- Where a code stands its symbol is read. -/
theorem nxF_code {ns : List Nat} (h15 : all15 ns) (hf : fitB ns = true) {f : Nat → Bool} {L p t : Nat} (ht : t < ns.length) (h0 : 0 < ln ns t) (hb : BitsAt f p (codeS ns t)) (hl : p + ln ns t ≤ L) : nxF ns f L p = .ok (t, p + ln ns t) := by
  have hlen := codeS_len ns t
  have hU : Under ns (fun i => f (p + i)) (ln ns t - 1) := .inr ⟨t, ⟨ht, h0⟩, by rw [bitsAt_pf hb (by omega)]; exact List.take_prefix _ _, fun e => by
    have := congrArg List.length e
    rw [pfB_len, codeS_len] at this; omega⟩
  have hR : NextR ns (fun i => f (p + i)) (L - p) (ln ns t - 1) (t : Int) 0 := by
    refine ⟨⟨hU, by omega⟩, .inr ⟨by omega, .inl ⟨t, ⟨ht, h0⟩, ?_, rfl, rfl⟩⟩⟩
    rw [show ln ns t - 1 + 1 = ln ns t by omega, bitsAt_pf hb (by omega), ← hlen, List.take_length]
  rw [nx_of ns h15 hf f L p _ _ _ (by omega) hR]
  unfold nxOf
  rw [if_pos rfl, Int.toNat_natCast, show p + (ln ns t - 1) + 1 = p + ln ns t by omega]
/-- Where a number stands it is taken. -/
theorem tkF_low {f : Nat → Bool} {L p x n : Nat} (hx : x < 2 ^ n) (hb : BitsAt f p (lowB x n)) (hl : p + n ≤ L) : tkF f L p n = .ok x := by
  unfold tkF
  rw [if_neg (by omega)]
  have : takeN (fun i => f (p + i)) n = takeN (fun i => x.testBit i) n := takeN_congr n fun i hi => by
    rw [hb i (by rw [lowB_len]; exact hi), lowB_at x n i hi]
  rw [this, takeN_low, Nat.mod_eq_of_lt hx]
/-- The last number below K whose least size isn't above x. -/
def lastK (x : Nat) (far : Bool) : Nat → Nat
  | 0 => 0
  | K + 1 => if (szF K far).1 ≤ x then K else lastK x far K
def noF (x : Nat) (far : Bool) : Nat := lastK x far (if far then 30 else 29)
theorem lastK_lt (x : Nat) (far : Bool) : ∀ K, 0 < K → lastK x far K < K
  | 0, h => by omega
  | K + 1, _ => by
    unfold lastK
    split
    · omega
    · by_cases h : 0 < K
      · have := lastK_lt x far K h; omega
      · obtain rfl : K = 0 := by omega
        simp [lastK]
theorem lastK_le (x : Nat) (far : Bool) (h : (szF 0 far).1 ≤ x) : ∀ K, (szF (lastK x far K) far).1 ≤ x
  | 0 => h
  | K + 1 => by
    unfold lastK
    split
    · assumption
    · exact lastK_le x far h K
theorem lastK_next (x : Nat) (far : Bool) : ∀ K j, lastK x far K < j → j < K → x < (szF j far).1
  | 0, j, _, h => by omega
  | K + 1, j, h1, h2 => by
    unfold lastK at h1
    split at h1
    · omega
    · rename_i hn
      by_cases e : j = K
      · subst e; omega
      · exact lastK_next x far K j h1 (by omega)
theorem szF_stepN : ∀ i : Fin 27, (szF (i.val + 1) false).1 = (szF i.val false).1 + 2 ^ (szF i.val false).2 := by decide +kernel
theorem szF_stepF : ∀ i : Fin 29, (szF (i.val + 1) true).1 = (szF i.val true).1 + 2 ^ (szF i.val true).2 := by decide +kernel
theorem noF_near {x : Nat} (h1 : 3 ≤ x) (h2 : x ≤ 258) : noF x false < 29 ∧ (szF (noF x false) false).1 ≤ x ∧ x - (szF (noF x false) false).1 < 2 ^ (szF (noF x false) false).2 ∧ 0 < (szF (noF x false) false).1 := by
  have hlt : noF x false < 29 := lastK_lt x false 29 (by decide)
  have hle : (szF (noF x false) false).1 ≤ x := lastK_le x false (by show 3 ≤ x; exact h1) 29
  have hnx : ∀ j, noF x false < j → j < 29 → x < (szF j false).1 := lastK_next x false 29
  generalize noF x false = i at *
  have hpos : ∀ i : Fin 29, 0 < (szF i.val false).1 := by decide +kernel
  refine ⟨hlt, hle, ?_, hpos ⟨i, hlt⟩⟩
  by_cases hi : i < 27
  · have := szF_stepN ⟨i, hi⟩
    have h3 := hnx (i + 1) (by omega) (by omega)
    simp only at this
    omega
  · rcases (show i = 27 ∨ i = 28 by omega) with rfl | rfl
    · have : szF 27 false = (227, 5) := by decide +kernel
      rw [this]; simp only; omega
    · have : szF 28 false = (258, 0) := by decide +kernel
      rw [this]; simp only; omega
theorem noF_far {x : Nat} (h1 : 1 ≤ x) (h2 : x ≤ 32768) : noF x true < 30 ∧ (szF (noF x true) true).1 ≤ x ∧ x - (szF (noF x true) true).1 < 2 ^ (szF (noF x true) true).2 ∧ 0 < (szF (noF x true) true).1 := by
  have hlt : noF x true < 30 := lastK_lt x true 30 (by decide)
  have hle : (szF (noF x true) true).1 ≤ x := lastK_le x true (by show 1 ≤ x; exact h1) 30
  have hnx : ∀ j, noF x true < j → j < 30 → x < (szF j true).1 := lastK_next x true 30
  generalize noF x true = i at *
  have hpos : ∀ i : Fin 30, 0 < (szF i.val true).1 := by decide +kernel
  refine ⟨hlt, hle, ?_, hpos ⟨i, hlt⟩⟩
  by_cases hi : i < 29
  · have := szF_stepF ⟨i, hi⟩
    have h3 := hnx (i + 1) (by omega) (by omega)
    simp only at this
    omega
  · obtain rfl : i = 29 := by omega
    have : szF 29 true = (24577, 13) := by decide +kernel
    rw [this]; simp only; omega
/-- The number of a size or a distance, as bits behind its symbol. -/
def szB (x : Nat) (far : Bool) : List Bool := lowB (x - (szF (noF x far) far).1) (szF (noF x far) far).2
theorem szE_bits {f : Nat → Bool} {L p x : Nat} {far : Bool} (h1 : (szF (noF x far) far).1 ≤ x) (h2 : x - (szF (noF x far) far).1 < 2 ^ (szF (noF x far) far).2) (h3 : 0 < (szF (noF x far) far).1) (hb : BitsAt f p (szB x far)) (hl : p + (szB x far).length ≤ L) :
    szE f L p (noF x far) far = .ok (x, p + (szB x far).length) := by
  unfold szB at hb hl ⊢
  rw [lowB_len] at hl ⊢
  unfold szE
  rw [if_neg (by omega), tkF_low h2 hb hl]
  simp only
  rw [show (szF (noF x far) far).1 + (x - (szF (noF x far) far).1) = x by omega]
/-- A token's symbol, its distance's number. -/
def symT (t : Tok) : Nat := if t.l = 0 then t.b else 257 + noF t.l.toNat false
def farT (t : Tok) : Nat := noF t.d.toNat true
/-- The bits of a token. -/
def encT (ls ds : List Nat) (t : Tok) : List Bool := if t.l = 0 then codeS ls (symT t) else codeS ls (symT t) ++ (szB t.l.toNat false ++ (codeS ds (farT t) ++ szB t.d.toNat true))
def encs (ls ds : List Nat) (ts : List Tok) : List Bool := ts.flatMap (encT ls ds)
theorem encs_cons (ls ds : List Nat) (t : Tok) (ts : List Tok) : encs ls ds (t :: ts) = encT ls ds t ++ encs ls ds ts := rfl
theorem encs_snoc (ls ds : List Nat) (t : Tok) (ts : List Tok) : encs ls ds (ts ++ [t]) = encs ls ds ts ++ encT ls ds t := by simp [encs]
/-- These codes have what a token needs. -/
def CodeT (ls ds : List Nat) (t : Tok) : Prop := t.b < 256 ∧ symT t < ls.length ∧ 0 < ln ls (symT t) ∧ (¬ t.l = 0 → farT t < ds.length ∧ 0 < ln ds (farT t))
theorem tkE_enc {ls ds : List Nat} (hld : all15 ds) (hfd : fitB ds = true) {f : Nat → Bool} {L most p out : Nat} {t : Tok} {O : List Nat} (hO : O.length = out) (he : errT O most t = 0) (hc : CodeT ls ds t)
    (hb : BitsAt f p (encT ls ds t)) (hl : p + (encT ls ds t).length ≤ L) : tkE ds f L most (p + ln ls (symT t)) out (symT t) = .ok (t, p + (encT ls ds t).length, (sayT O t).length) := by
  obtain ⟨hk, hd, hw⟩ := errT_zero he
  have hsl := sayT_len (out := O) hk
  obtain ⟨tb, tl, td⟩ := t
  by_cases h0 : tl = 0
  · subst h0
    have hd0 : td = 0 := by rw [isTok_zero rfl] at hk; simpa using hk
    subst hd0
    have hsym : symT ⟨tb, 0, 0⟩ = tb := rfl
    have henc : encT ls ds ⟨tb, 0, 0⟩ = codeS ls tb := rfl
    have hw1 : wid ⟨tb, 0, 0⟩ = 1 := rfl
    rw [hw1] at hw hsl
    rw [hsym, henc, codeS_len]
    unfold tkE
    have hb256 : tb < 256 := hc.1
    rw [if_pos hb256, if_neg (by omega), show (sayT O ⟨tb, 0, 0⟩).length = out + 1 by omega]
  · obtain ⟨hb0, h3, h258, h1, h32⟩ := isTok_rep h0 hk
    simp only at hb0 h3 h258 h1 h32 hd
    subst hb0
    obtain ⟨l, rfl⟩ : ∃ n : Nat, tl = (n : Int) := ⟨tl.toNat, by omega⟩
    obtain ⟨d, rfl⟩ : ∃ n : Nat, td = (n : Int) := ⟨td.toNat, by omega⟩
    have hw1 : wid ⟨0, l, d⟩ = (l : Int) := by unfold wid; rw [if_pos (by simp only; omega)]
    rw [hw1] at hw hsl
    have hsym : symT ⟨0, l, d⟩ = 257 + noF l false := by unfold symT; rw [if_neg h0]; rfl
    have henc : encT ls ds ⟨0, l, d⟩ = codeS ls (257 + noF l false) ++ (szB l false ++ (codeS ds (noF d true) ++ szB d true)) := by unfold encT; rw [if_neg h0, hsym]; rfl
    obtain ⟨n1, n2, n3, n4⟩ := noF_near (x := l) (by omega) (by omega)
    obtain ⟨m1, m2, m3, m4⟩ := noF_far (x := d) (by omega) (by omega)
    obtain ⟨hf1, hf2⟩ := hc.2.2.2 h0
    have hfar : farT ⟨0, l, d⟩ = noF d true := rfl
    rw [hfar] at hf1 hf2
    rw [henc] at hb hl ⊢
    rw [hsym]
    have a1 := hb.right
    have a2 := a1.right
    have a3 := a2.right
    rw [codeS_len] at a1 a2 a3
    rw [codeS_len] at a3
    simp only [List.length_append, codeS_len] at hl ⊢
    unfold tkE
    rw [if_neg (by omega), show 257 + noF l false - 257 = noF l false by omega, szE_bits n2 n3 n4 a1.left (by omega)]
    simp only
    rw [nxF_code hld hfd hf1 hf2 a2.left (by omega)]
    simp only
    rw [szE_bits m2 m3 m4 a3 (by omega)]
    simp only
    rw [if_neg (by omega), if_neg (by omega)]
    simp only [Except.ok.injEq, Prod.mk.injEq, true_and]
    exact ⟨by omega, by omega⟩
/-- The tokens of a block whose bits stand there are read. -/
theorem tksF_enc {ls ds : List Nat} (hls : all15 ls) (hfl : fitB ls = true) (hld : all15 ds) (hfd : fitB ds = true) (h256 : 256 < ls.length) (hp256 : 0 < ln ls 256) {f : Nat → Bool} {L most : Nat} :
    ∀ (ts : List Tok) (k p out : Nat) (acc : List Tok) (O O' : List Nat), O.length = out → expF most ts O = (O', 0) → (∀ t ∈ ts, CodeT ls ds t) → BitsAt f p (encs ls ds ts ++ codeS ls 256) → p + (encs ls ds ts).length + ln ls 256 ≤ L → ts.length < k →
      tksF ls ds f L most k p out acc = .ok (acc ++ ts, p + (encs ls ds ts).length + ln ls 256, O'.length)
  | [], 0, p, out, acc, O, O', hO, he, hc, hb, hl, hk => by simp at hk
  | [], k + 1, p, out, acc, O, O', hO, he, hc, hb, hl, hk => by
    have e : O' = O := by simpa [expF] using he.symm
    subst e
    have hb' : BitsAt f p (codeS ls 256) := hb
    have hn : (encs ls ds []).length = 0 := rfl
    rw [hn] at hl ⊢
    rw [tksF, nxF_code hls hfl h256 hp256 hb' (by omega)]
    simp only [List.append_nil]
    rw [if_pos trivial, hO, Nat.add_zero]
  | t :: ts, 0, p, out, acc, O, O', hO, he, hc, hb, hl, hk => by simp at hk
  | t :: ts, k + 1, p, out, acc, O, O', hO, he, hc, hb, hl, hk => by
    have hct := hc t (List.mem_cons_self ..)
    rw [encs_cons, List.append_assoc] at hb
    rw [encs_cons, List.length_append] at hl ⊢
    have he0 : errT O most t = 0 := by
      cases h : errT O (most : Int) t with
      | zero => rfl
      | succ n => rw [expF, if_neg (by omega)] at he; simp at he; omega
    rw [expF, if_pos he0] at he
    have hbt := hb.left
    have hcode : BitsAt f p (codeS ls (symT t)) := by
      unfold encT at hbt
      split at hbt
      · exact hbt
      · exact hbt.left
    have hle : ln ls (symT t) ≤ (encT ls ds t).length := by
      unfold encT
      split
      · rw [codeS_len]; exact Nat.le_refl _
      · rw [List.length_append, codeS_len]; omega
    have hne : ¬ symT t = 256 := by
      unfold symT
      have := hct.1
      split <;> omega
    rw [tksF, nxF_code hls hfl hct.2.1 hct.2.2.1 hcode (by omega)]
    simp only
    rw [if_neg hne, tkE_enc hld hfd hO he0 hct hbt (by omega)]
    simp only
    rw [tksF_enc hls hfl hld hfd h256 hp256 ts k _ _ (acc ++ [t]) (sayT O t) O' rfl he (fun u hu => hc u (List.mem_cons_of_mem _ hu)) hb.right (by omega) (by simpa using hk)]
    rw [List.append_assoc, Nat.add_assoc p]
    rfl
end Go.Proofs.Ytibnkpfginffhac
