/- Streams of blocks, read bit by bit: the plain mathematics. f: the bits, L: how many there are, p: the place. -/
import Derived.Test.YtibnkpfginffhacTreeN
import Derived.Test.YtibnkpfginffhacMatchM
namespace Go.Proofs.Ytibnkpfginffhac
open Go.RowKit
set_option linter.unusedVariables false

/-- n bits as a number. -/
def tkF (f : Nat → Bool) (L p n : Nat) : Except Nat Nat := if L < p + n then .error 6 else .ok (takeN (fun i => f (p + i)) n)
/-- The symbol that comes next, and the place behind it; j bits have been looked at. -/
def nxG (ns : List Nat) (f : Nat → Bool) (L p : Nat) : Nat → Nat → Except Nat (Nat × Nat)
  | 0, _ => .error 3
  | k + 1, j =>
    if L ≤ p + j then .error 6 else
    match (List.range ns.length).find? (fun t => decide (ln ns t = j + 1) && decide (codeS ns t = pfB (fun i => f (p + i)) (j + 1))) with
    | some t => .ok (t, p + j + 1)
    | none => if (List.range ns.length).any (fun t => decide (j + 1 < ln ns t) && decide ((codeS ns t).take (j + 1) = pfB (fun i => f (p + i)) (j + 1))) then nxG ns f L p k (j + 1) else .error 3
def nxF (ns : List Nat) (f : Nat → Bool) (L p : Nat) : Except Nat (Nat × Nat) := nxG ns f L p 16 0
/-- What Next's relation says, in this form. -/
def nxOf (p j : Nat) (y e : Int) : Except Nat (Nat × Nat) := if e = 0 then .ok (y.toNat, p + j + 1) else .error e.toNat
theorem nxG_sound (ns : List Nat) (h15 : all15 ns) (f : Nat → Bool) (L p : Nat) (hp : p ≤ L) : ∀ k j, 16 ≤ k + j → Under ns (fun i => f (p + i)) j → j ≤ L - p → ∃ j' y e, NextR ns (fun i => f (p + i)) (L - p) j' y e ∧ nxG ns f L p k j = nxOf p j' y e
  | 0, j, hk, hU, hj => by have := hU.lt h15; omega
  | k + 1, j, hk, hU, hj => by
    rw [nxG]
    by_cases hL : L ≤ p + j
    · rw [if_pos hL]
      exact ⟨j, 0, 6, ⟨⟨hU, hj⟩, .inl ⟨by omega, rfl, rfl⟩⟩, rfl⟩
    · rw [if_neg hL]
      cases hfd : (List.range ns.length).find? (fun t => decide (ln ns t = j + 1) && decide (codeS ns t = pfB (fun i => f (p + i)) (j + 1))) with
      | some t =>
        have h1 := List.find?_some hfd
        have h2 := List.mem_range.1 (List.mem_of_find?_eq_some hfd)
        simp only [Bool.and_eq_true, decide_eq_true_eq] at h1
        exact ⟨j, (t : Int), 0, ⟨⟨hU, hj⟩, .inr ⟨by omega, .inl ⟨t, ⟨h2, by omega⟩, h1.2, rfl, rfl⟩⟩⟩, rfl⟩
      | none =>
        simp only
        have hno := List.find?_eq_none.1 hfd
        by_cases hany : (List.range ns.length).any (fun t => decide (j + 1 < ln ns t) && decide ((codeS ns t).take (j + 1) = pfB (fun i => f (p + i)) (j + 1))) = true
        · rw [if_pos hany]
          obtain ⟨t, ht, hc⟩ := List.any_eq_true.1 hany
          simp only [Bool.and_eq_true, decide_eq_true_eq] at hc
          refine nxG_sound ns h15 f L p hp k (j + 1) (by omega) (.inr ⟨t, ⟨List.mem_range.1 ht, by omega⟩, ?_, ?_⟩) (by omega)
          · rw [← hc.2]; exact List.take_prefix _ _
          · intro e
            have := congrArg List.length e
            rw [pfB_len, codeS_len] at this; omega
        · rw [if_neg hany]
          refine ⟨j, 0, 3, ⟨⟨hU, hj⟩, .inr ⟨by omega, .inr ⟨fun t ht hpf => ?_, rfl, rfl⟩⟩⟩, rfl⟩
          have hl := hpf.length_le
          rw [pfB_len, codeS_len] at hl
          have hm : t ∈ List.range ns.length := List.mem_range.2 ht.1
          by_cases e : ln ns t = j + 1
          · refine hno t hm ?_
            simp only [Bool.and_eq_true, decide_eq_true_eq]
            exact ⟨e, (hpf.eq_of_length (by rw [pfB_len, codeS_len, e])).symm⟩
          · refine hany (List.any_eq_true.2 ⟨t, hm, ?_⟩)
            simp only [Bool.and_eq_true, decide_eq_true_eq]
            refine ⟨by omega, ?_⟩
            have := List.prefix_iff_eq_take.1 hpf
            rw [pfB_len] at this
            exact this.symm
theorem nx_sound (ns : List Nat) (h15 : all15 ns) (f : Nat → Bool) (L p : Nat) (hp : p ≤ L) : ∃ j y e, NextR ns (fun i => f (p + i)) (L - p) j y e ∧ nxF ns f L p = nxOf p j y e :=
  nxG_sound ns h15 f L p hp 16 0 (by omega) (.inl rfl) (by omega)
/-- Where one stops, none goes on. -/
theorem next_no (ns : List Nat) (h15 : all15 ns) (hf : fitB ns = true) (f : Nat → Bool) (left j1 j2 : Nat) (y1 e1 : Int) (h1 : NextR ns f left j1 y1 e1) (hU : Under ns f j2) (h2 : j2 ≤ left) (hlt : j1 < j2) : False := by
  obtain ⟨_, h1⟩ := h1
  rcases hU with rfl | ⟨t, ht, hp, hne⟩
  · omega
  · have hpp : pfB f (j1 + 1) <+: codeS ns t := (pfB_prefix f (j1 + 1) j2 (by omega)).trans hp
    rcases h1 with ⟨h, _⟩ | ⟨_, ⟨u, hu, hc, _⟩ | ⟨h, _⟩⟩
    · omega
    · rw [← hc] at hpp
      have := codeS_pf ns h15 hf u t hu.1 ht.1 hu.2 ht.2 hpp
      subst this
      have hl := hp.length_le
      have hl2 := congrArg List.length hc
      rw [pfB_len, codeS_len] at hl
      rw [pfB_len, codeS_len] at hl2
      exact hne (hp.eq_of_length (by rw [pfB_len, codeS_len]; omega))
    · exact h t ht hpp
theorem next_one (ns : List Nat) (h15 : all15 ns) (hf : fitB ns = true) (f : Nat → Bool) (left j1 j2 : Nat) (y1 e1 y2 e2 : Int) (h1 : NextR ns f left j1 y1 e1) (h2 : NextR ns f left j2 y2 e2) : j1 = j2 ∧ y1 = y2 ∧ e1 = e2 := by
  have hj : j1 = j2 := by
    rcases Nat.lt_trichotomy j1 j2 with h | h | h
    · exact (next_no ns h15 hf f left j1 j2 y1 e1 h1 h2.1.1 h2.1.2 h).elim
    · exact h
    · exact (next_no ns h15 hf f left j2 j1 y2 e2 h2 h1.1.1 h1.1.2 h).elim
  subst hj
  refine ⟨rfl, ?_⟩
  obtain ⟨_, h1⟩ := h1
  obtain ⟨_, h2⟩ := h2
  rcases h1 with ⟨a, b, c⟩ | ⟨a, ⟨u, hu, hc, b, c⟩ | ⟨h, b, c⟩⟩
  · rcases h2 with ⟨a', b', c'⟩ | ⟨a', _⟩
    · exact ⟨b.trans b'.symm, c.trans c'.symm⟩
    · omega
  · rcases h2 with ⟨a', _⟩ | ⟨a', ⟨v, hv, hd, b', c'⟩ | ⟨h', _⟩⟩
    · omega
    · have := codeS_pf ns h15 hf u v hu.1 hv.1 hu.2 hv.2 (by rw [hc, hd]; exact List.prefix_refl _)
      subst this
      exact ⟨b.trans b'.symm, c.trans c'.symm⟩
    · exact (h' u hu (by rw [hc]; exact List.prefix_refl _)).elim
  · rcases h2 with ⟨a', _⟩ | ⟨a', ⟨v, hv, hd, b', c'⟩ | ⟨h', b', c'⟩⟩
    · omega
    · exact (h v hv (by rw [hd]; exact List.prefix_refl _)).elim
    · exact ⟨b.trans b'.symm, c.trans c'.symm⟩
/-- Next's answer is this one. -/
theorem nx_of (ns : List Nat) (h15 : all15 ns) (hf : fitB ns = true) (f : Nat → Bool) (L p j : Nat) (y e : Int) (hp : p ≤ L) (h : NextR ns (fun i => f (p + i)) (L - p) j y e) : nxF ns f L p = nxOf p j y e := by
  obtain ⟨j', y', e', h1, h2⟩ := nx_sound ns h15 f L p hp
  obtain ⟨rfl, rfl, rfl⟩ := next_one ns h15 hf _ _ _ _ _ _ _ _ h h1
  exact h2
theorem nextR_kind {ns : List Nat} {f : Nat → Bool} {left j : Nat} {y e : Int} (h : NextR ns f left j y e) : (e = 0 ∧ j < left ∧ ∃ t : Nat, y = (t : Int) ∧ t < ns.length) ∨ (y = 0 ∧ (e = 3 ∨ e = 6)) := by
  obtain ⟨_, h⟩ := h
  rcases h with ⟨_, h1, h2⟩ | ⟨hj, ⟨t, ht, _, h1, h2⟩ | ⟨_, h1, h2⟩⟩
  · exact .inr ⟨h1, .inr h2⟩
  · exact .inl ⟨h2, hj, t, h1, ht.1⟩
  · exact .inr ⟨h1, .inl h2⟩
theorem nxF_ok {ns : List Nat} (h15 : all15 ns) {f : Nat → Bool} {L p t q : Nat} (hp : p ≤ L) (h : nxF ns f L p = .ok (t, q)) : t < ns.length ∧ p < q ∧ q ≤ L := by
  obtain ⟨j, y, e, h1, h2⟩ := nx_sound ns h15 f L p hp
  rw [h2] at h
  unfold nxOf at h
  rcases nextR_kind h1 with ⟨rfl, hj, u, rfl, hu⟩ | ⟨_, rfl | rfl⟩
  · rw [if_pos rfl] at h
    simp only [Except.ok.injEq, Prod.mk.injEq, Int.toNat_natCast] at h
    omega
  · rw [if_neg (by decide)] at h; cases h
  · rw [if_neg (by decide)] at h; cases h
/-- The least size of a number and its bits: so many numbers in a row have as many bits. -/
def stepsN (i first row : Nat) : Nat × Nat := if i < 2 * row then (first + i, 0) else (first + (row + i % row) * 2 ^ (i / row - 1), i / row - 1)
def szF (i : Nat) (far : Bool) : Nat × Nat := if far then (if i < 30 then stepsN i 1 2 else (0, 0)) else if 29 ≤ i then (0, 0) else if i = 28 then (258, 0) else stepsN i 3 4
theorem szF_bd (far : Bool) : ∀ i, (szF i far).1 ≤ 24577 ∧ (szF i far).2 ≤ 13 := by
  intro i
  by_cases h : i < 30
  · have key : ∀ (far : Bool) (i : Fin 30), (szF i.val far).1 ≤ 24577 ∧ (szF i.val far).2 ≤ 13 := by decide +kernel
    exact key far ⟨i, h⟩
  · unfold szF
    cases far
    · rw [if_neg (by decide), if_pos (by omega)]; exact ⟨by decide, by decide⟩
    · rw [if_pos rfl, if_neg h]; exact ⟨by decide, by decide⟩
/-- A size, or a distance, of a number and of the bits that follow it; the place behind them. -/
def szE (f : Nat → Bool) (L p i : Nat) (far : Bool) : Except Nat (Nat × Nat) := if (szF i far).1 = 0 then .error 3 else match tkF f L p (szF i far).2 with
  | .error e => .error e
  | .ok m => .ok ((szF i far).1 + m, p + (szF i far).2)
/-- The token that begins with a symbol; the place, the bytes that have come out. -/
def tkE (ds : List Nat) (f : Nat → Bool) (L most p out sym : Nat) : Except Nat (Tok × Nat × Nat) :=
  if sym < 256 then (if most < out + 1 then .error 2 else .ok (⟨sym, 0, 0⟩, p, out + 1)) else
  match szE f L p (sym - 257) false with
  | .error e => .error e
  | .ok (size, p1) => match nxF ds f L p1 with
    | .error e => .error e
    | .ok (d, p2) => match szE f L p2 d true with
      | .error e => .error e
      | .ok (dist, p3) => if out < dist then .error 3 else if most < out + size then .error 2 else .ok (⟨0, size, dist⟩, p3, out + size)
/-- The tokens of a block, up to its end. -/
def tksF (ls ds : List Nat) (f : Nat → Bool) (L most : Nat) : Nat → Nat → Nat → List Tok → Except Nat (List Tok × Nat × Nat)
  | 0, _, _, _ => .error 6
  | k + 1, p, out, acc => match nxF ls f L p with
    | .error e => .error e
    | .ok (sym, p1) => if sym = 256 then .ok (acc, p1, out) else match tkE ds f L most p1 out sym with
      | .error e => .error e
      | .ok (t, p2, out2) => tksF ls ds f L most k p2 out2 (acc ++ [t])
/-- n bytes from a place on. -/
def bytF (f : Nat → Bool) (q n : Nat) : List Nat := (List.range n).map fun k => takeN (fun i => f (q + 8 * k + i)) 8
/-- A stored block's bytes. -/
def stF (f : Nat → Bool) (L most p out : Nat) : Except Nat (List Nat × Nat × Nat) :=
  match tkF f L ((p + 7) / 8 * 8) 16 with
  | .error e => .error e
  | .ok n => match tkF f L ((p + 7) / 8 * 8 + 16) 16 with
    | .error e => .error e
    | .ok m => if n + m ≠ 65535 then .error 3 else if L < (p + 7) / 8 * 8 + 32 + 8 * n then .error 6 else if most < out + n then .error 2 else .ok (bytF f ((p + 7) / 8 * 8 + 32) n, (p + 7) / 8 * 8 + 32 + 8 * n, out + n)
/-- In which order the lengths of the first codes are told. -/
def ordL : List Nat := [16, 17, 18, 0, 8, 7, 9, 6, 10, 5, 11, 4, 12, 3, 13, 2, 14, 1, 15]
/-- The lengths of the first codes, of which n are told from a place on, the first k so far. -/
def fstL (f : Nat → Bool) (p k : Nat) : List Nat := (List.range 19).map fun t => if ordL.idxOf t < k then takeN (fun i => f (p + 3 * ordL.idxOf t + i)) 3 else 0
/-- How often at least a symbol's length stands, and the bits that say how much more often. -/
def tmF (sym : Nat) : Nat × Nat := if sym = 16 then (3, 2) else if sym = 17 then (3, 3) else if sym = 18 then (11, 7) else (1, 0)
def toldF (row : List Nat) (sym : Nat) : Nat := if sym = 16 then row.getD (row.length - 1) 0 else if sym = 17 ∨ sym = 18 then 0 else sym
/-- A row of n lengths. -/
def rowF (ns : List Nat) (f : Nat → Bool) (L n : Nat) : Nat → Nat → List Nat → Except Nat (List Nat × Nat)
  | 0, _, _ => .error 6
  | k + 1, p, row => if n ≤ row.length then (if n < row.length then .error 3 else .ok (row, p)) else
    match nxF ns f L p with
    | .error e => .error e
    | .ok (sym, p1) => if sym = 16 ∧ row.length = 0 then .error 3 else match tkF f L p1 (tmF sym).2 with
      | .error e => .error e
      | .ok m => rowF ns f L n k (p1 + (tmF sym).2) (row ++ List.replicate ((tmF sym).1 + m) (toldF row sym))
/-- The error of lengths that a stream tells. -/
def fitE (ns : List Nat) : Bool := decide (ns.length ≤ 320) && (ns.all fun n => decide (n ≤ 15)) && fitB ns
/-- The lengths that a dynamic block tells. -/
def dynF (f : Nat → Bool) (L p : Nat) : Except Nat (List Nat × List Nat × Nat) :=
  match tkF f L p 5 with
  | .error e => .error e
  | .ok a => match tkF f L (p + 5) 5 with
    | .error e => .error e
    | .ok b => match tkF f L (p + 10) 4 with
      | .error e => .error e
      | .ok c => if 29 < a ∨ 29 < b then .error 3 else if L < p + 14 + 3 * (c + 4) then .error 6 else
        if fitE (fstL f (p + 14) (c + 4)) = false then .error 3 else
        match rowF (fstL f (p + 14) (c + 4)) f L (a + b + 258) (L + 1) (p + 14 + 3 * (c + 4)) [] with
        | .error e => .error e
        | .ok (row, p1) => if row.getD 256 0 = 0 then .error 3 else if fitE (row.take (a + 257)) = false ∨ fitE (row.drop (a + 257)) = false then .error 3 else .ok (row.take (a + 257), row.drop (a + 257), p1)
def fixL : List Nat := List.replicate 144 8 ++ List.replicate 112 9 ++ List.replicate 24 7 ++ List.replicate 8 8
def fixD : List Nat := List.replicate 32 5
/-- A block. -/
structure Blk where
  kind : Nat
  bytes : List Nat
  toks : List Tok
/-- The next block, whether it is the last one; the place, the bytes that have come out. -/
def blkF (f : Nat → Bool) (L most p out : Nat) : Except Nat (Blk × Nat × Nat × Nat) :=
  match tkF f L p 1 with
  | .error e => .error e
  | .ok last => match tkF f L (p + 1) 2 with
    | .error e => .error e
    | .ok kind => if kind = 0 then (match stF f L most (p + 3) out with
        | .error e => .error e
        | .ok (b, p1, o1) => .ok (⟨0, b, []⟩, last, p1, o1))
      else if kind = 1 then (match tksF fixL fixD f L most (L + 1) (p + 3) out [] with
        | .error e => .error e
        | .ok (t, p1, o1) => .ok (⟨1, [], t⟩, last, p1, o1))
      else if kind = 2 then (match dynF f L (p + 3) with
        | .error e => .error e
        | .ok (ls, ds, p1) => match tksF ls ds f L most (L + 1) p1 out [] with
          | .error e => .error e
          | .ok (t, p2, o2) => .ok (⟨2, [], t⟩, last, p2, o2))
      else .error 3
def blksF (f : Nat → Bool) (L most : Nat) : Nat → Nat → Nat → List Blk → Except Nat (List Blk × Nat)
  | 0, _, _, _ => .error 6
  | k + 1, p, out, acc => match blkF f L most p out with
    | .error e => .error e
    | .ok (b, last, p1, o1) => if last = 1 then .ok (acc ++ [b], p1) else blksF f L most k p1 o1 (acc ++ [b])
end Go.Proofs.Ytibnkpfginffhac
