/- What is read well hangs on no bit behind its end: the plain mathematics. -/
import Derived.Test.YthkppipdflmekaaQInfI
namespace Go.Proofs.Ythkppipdflmekaa
open Go.RowKit
set_option linter.unusedVariables false

/-- Alike up to a place. -/
def Alike (f g : Nat → Bool) (q : Nat) : Prop := ∀ i, i < q → f i = g i
theorem Alike.less {f g : Nat → Bool} {q p : Nat} (h : Alike f g q) (hp : p ≤ q) : Alike f g p := fun i hi => h i (by omega)
theorem tkF_loc {f g : Nat → Bool} {L M p n x : Nat} (h : tkF f L p n = .ok x) (ha : Alike f g (p + n)) (hM : p + n ≤ M) : tkF g M p n = .ok x := by
  obtain ⟨h1, rfl⟩ := tkF_ok h
  unfold tkF
  rw [if_neg (by omega), takeN_congr n (fun i hi => (ha (p + i) (by omega)).symm)]
theorem pfB_loc {f g : Nat → Bool} {n : Nat} (h : ∀ i, i < n → f i = g i) : pfB f n = pfB g n := by
  unfold pfB
  refine List.map_congr_left (fun i hi => h i (List.mem_range.1 hi))
theorem nxG_place {ns : List Nat} {f : Nat → Bool} {L p : Nat} : ∀ (k j t q : Nat), nxG ns f L p k j = .ok (t, q) → p + j < q ∧ q ≤ L
  | 0, j, t, q, h => by rw [nxG] at h; cases h
  | k + 1, j, t, q, h => by
    rw [nxG] at h
    split at h
    · cases h
    · split at h
      · simp only [Except.ok.injEq, Prod.mk.injEq] at h; omega
      · split at h
        · have := nxG_place k (j + 1) t q h; omega
        · cases h
theorem nxG_loc {ns : List Nat} {f g : Nat → Bool} {L M p : Nat} : ∀ (k j t q : Nat), nxG ns f L p k j = .ok (t, q) → Alike f g q → q ≤ M → nxG ns g M p k j = .ok (t, q)
  | 0, j, t, q, h, ha, hM => by rw [nxG] at h; cases h
  | k + 1, j, t, q, h, ha, hM => by
    have hpl := nxG_place _ _ _ _ h
    rw [nxG] at h ⊢
    have e : pfB (fun i => g (p + i)) (j + 1) = pfB (fun i => f (p + i)) (j + 1) := pfB_loc (fun i hi => (ha (p + i) (by omega)).symm)
    rw [e, if_neg (by omega)]
    split at h
    · cases h
    · split at h
      · exact h
      · split at h
        · rename_i hany
          rw [if_pos hany]
          exact nxG_loc k (j + 1) t q h ha hM
        · cases h
theorem nxF_loc {ns : List Nat} {f g : Nat → Bool} {L M p t q : Nat} (h : nxF ns f L p = .ok (t, q)) (ha : Alike f g q) (hM : q ≤ M) : nxF ns g M p = .ok (t, q) := nxG_loc 16 0 t q h ha hM
theorem nxF_place {ns : List Nat} {f : Nat → Bool} {L p t q : Nat} (h : nxF ns f L p = .ok (t, q)) : p < q ∧ q ≤ L := by
  have := nxG_place 16 0 t q h; omega
theorem szE_loc {f g : Nat → Bool} {L M p i x q : Nat} {far : Bool} (h : szE f L p i far = .ok (x, q)) (ha : Alike f g q) (hM : q ≤ M) : szE g M p i far = .ok (x, q) := by
  unfold szE at h ⊢
  split at h
  · cases h
  · rename_i h0
    rw [if_neg h0]
    cases ht : tkF f L p (szF i far).2 with
    | error e => rw [ht] at h; cases h
    | ok m =>
      rw [ht] at h
      simp only [Except.ok.injEq, Prod.mk.injEq] at h
      obtain ⟨rfl, rfl⟩ := h
      rw [tkF_loc ht ha hM]
theorem szE_place {f : Nat → Bool} {L p i x q : Nat} {far : Bool} (h : szE f L p i far = .ok (x, q)) : p ≤ q ∧ q ≤ L := by
  unfold szE at h
  split at h
  · cases h
  · cases ht : tkF f L p (szF i far).2 with
    | error e => rw [ht] at h; cases h
    | ok m =>
      rw [ht] at h
      simp only [Except.ok.injEq, Prod.mk.injEq] at h
      have := tkF_ok ht
      omega
theorem tkE_place {ds : List Nat} {f : Nat → Bool} {L most p out sym q o : Nat} {t : Tok} (hp : p ≤ L) (h : tkE ds f L most p out sym = .ok (t, q, o)) : p ≤ q ∧ q ≤ L := by
  unfold tkE at h
  split at h
  · split at h
    · cases h
    · simp only [Except.ok.injEq, Prod.mk.injEq] at h; omega
  · cases h1 : szE f L p (sym - 257) false with
    | error e => rw [h1] at h; cases h
    | ok r1 =>
      obtain ⟨size, p1⟩ := r1
      rw [h1] at h
      simp only at h
      cases h2 : nxF ds f L p1 with
      | error e => rw [h2] at h; cases h
      | ok r2 =>
        obtain ⟨d, p2⟩ := r2
        rw [h2] at h
        simp only at h
        cases h3 : szE f L p2 d true with
        | error e => rw [h3] at h; cases h
        | ok r3 =>
          obtain ⟨dist, p3⟩ := r3
          rw [h3] at h
          simp only at h
          have a1 := szE_place h1
          have a2 := nxF_place h2
          have a3 := szE_place h3
          split at h
          · cases h
          · split at h
            · cases h
            · simp only [Except.ok.injEq, Prod.mk.injEq] at h; omega
theorem tkE_loc {ds : List Nat} {f g : Nat → Bool} {L M most p out sym q o : Nat} {t : Tok} (hp : p ≤ L) (h : tkE ds f L most p out sym = .ok (t, q, o)) (ha : Alike f g q) (hM : q ≤ M) : tkE ds g M most p out sym = .ok (t, q, o) := by
  unfold tkE at h ⊢
  split at h
  · rename_i hs
    rw [if_pos hs]; exact h
  · rename_i hs
    rw [if_neg hs]
    cases h1 : szE f L p (sym - 257) false with
    | error e => rw [h1] at h; cases h
    | ok r1 =>
      obtain ⟨size, p1⟩ := r1
      rw [h1] at h
      simp only at h
      cases h2 : nxF ds f L p1 with
      | error e => rw [h2] at h; cases h
      | ok r2 =>
        obtain ⟨d, p2⟩ := r2
        rw [h2] at h
        simp only at h
        cases h3 : szE f L p2 d true with
        | error e => rw [h3] at h; cases h
        | ok r3 =>
          obtain ⟨dist, p3⟩ := r3
          rw [h3] at h
          simp only at h
          have a2 := nxF_place h2
          have a3 := szE_place h3
          have hq : p3 = q := by
            split at h
            · cases h
            · split at h
              · cases h
              · simp only [Except.ok.injEq, Prod.mk.injEq] at h; exact h.2.1
          subst hq
          rw [szE_loc h1 (ha.less (by omega)) (by omega)]
          simp only
          rw [nxF_loc h2 (ha.less (by omega)) (by omega)]
          simp only
          rw [szE_loc h3 ha hM]
          exact h
theorem tksF_place {ls ds : List Nat} {f : Nat → Bool} {L most : Nat} : ∀ (k p out : Nat) (acc ts : List Tok) (q o : Nat), tksF ls ds f L most k p out acc = .ok (ts, q, o) → p < q ∧ q ≤ L
  | 0, p, out, acc, ts, q, o, h => by rw [tksF] at h; cases h
  | k + 1, p, out, acc, ts, q, o, h => by
    rw [tksF] at h
    cases hx : nxF ls f L p with
    | error e => rw [hx] at h; cases h
    | ok r1 =>
      obtain ⟨sym, p1⟩ := r1
      rw [hx] at h
      simp only at h
      have a1 := nxF_place hx
      split at h
      · simp only [Except.ok.injEq, Prod.mk.injEq] at h; omega
      · cases ht : tkE ds f L most p1 out sym with
        | error e => rw [ht] at h; cases h
        | ok r2 =>
          obtain ⟨t, p2, o2⟩ := r2
          rw [ht] at h
          simp only at h
          have a2 := tkE_place a1.2 ht
          have a3 := tksF_place k p2 o2 _ ts q o h
          omega
theorem tksF_loc {ls ds : List Nat} {f g : Nat → Bool} {L M most : Nat} : ∀ (k k' p out : Nat) (acc ts : List Tok) (q o : Nat), tksF ls ds f L most k p out acc = .ok (ts, q, o) → Alike f g q → q ≤ M → q ≤ p + k' → tksF ls ds g M most k' p out acc = .ok (ts, q, o)
  | 0, k', p, out, acc, ts, q, o, h, ha, hM, hk => by rw [tksF] at h; cases h
  | k + 1, k', p, out, acc, ts, q, o, h, ha, hM, hk => by
    have a0 := tksF_place _ _ _ _ _ _ _ h
    obtain ⟨m, rfl⟩ : ∃ m, k' = m + 1 := ⟨k' - 1, by omega⟩
    rw [tksF] at h ⊢
    cases hx : nxF ls f L p with
    | error e => rw [hx] at h; cases h
    | ok r1 =>
      obtain ⟨sym, p1⟩ := r1
      rw [hx] at h
      simp only at h
      have a1 := nxF_place hx
      split at h
      · rename_i hs
        have hq : p1 = q := by simp only [Except.ok.injEq, Prod.mk.injEq] at h; exact h.2.1
        subst hq
        rw [nxF_loc hx ha hM]
        simp only
        rw [if_pos hs]; exact h
      · rename_i hs
        cases ht : tkE ds f L most p1 out sym with
        | error e => rw [ht] at h; cases h
        | ok r2 =>
          obtain ⟨t, p2, o2⟩ := r2
          rw [ht] at h
          simp only at h
          have a2 := tkE_place a1.2 ht
          have a3 := tksF_place k p2 o2 _ ts q o h
          rw [nxF_loc hx (ha.less (by omega)) (by omega)]
          simp only
          rw [if_neg hs, tkE_loc a1.2 ht (ha.less (by omega)) (by omega)]
          simp only
          exact tksF_loc k m p2 o2 _ ts q o h ha hM (by omega)
theorem stF_place {f : Nat → Bool} {L most p out : Nat} {b : List Nat} {q o : Nat} (h : stF f L most p out = .ok (b, q, o)) : ∃ n m, tkF f L ((p + 7) / 8 * 8) 16 = .ok n ∧ tkF f L ((p + 7) / 8 * 8 + 16) 16 = .ok m ∧ ¬ n + m ≠ 65535 ∧ ¬ most < out + n ∧ b = bytF f ((p + 7) / 8 * 8 + 32) n ∧ q = (p + 7) / 8 * 8 + 32 + 8 * n ∧ o = out + n ∧ q ≤ L := by
  unfold stF at h
  cases h1 : tkF f L ((p + 7) / 8 * 8) 16 with
  | error e => rw [h1] at h; cases h
  | ok n =>
    rw [h1] at h
    simp only at h
    cases h2 : tkF f L ((p + 7) / 8 * 8 + 16) 16 with
    | error e => rw [h2] at h; cases h
    | ok m =>
      rw [h2] at h
      simp only at h
      split at h
      · cases h
      · rename_i a1
        split at h
        · cases h
        · rename_i a2
          split at h
          · cases h
          · rename_i a3
            simp only [Except.ok.injEq, Prod.mk.injEq] at h
            obtain ⟨rfl, rfl, rfl⟩ := h
            exact ⟨n, m, rfl, rfl, a1, a3, rfl, rfl, rfl, by omega⟩
theorem stF_loc {f g : Nat → Bool} {L M most p out : Nat} {b : List Nat} {q o : Nat} (h : stF f L most p out = .ok (b, q, o)) (ha : Alike f g q) (hM : q ≤ M) : stF g M most p out = .ok (b, q, o) := by
  obtain ⟨n, m, h1, h2, h3, h4, rfl, rfl, rfl, h5⟩ := stF_place h
  unfold stF
  rw [tkF_loc h1 (ha.less (by omega)) (by omega)]
  simp only
  rw [tkF_loc h2 (ha.less (by omega)) (by omega)]
  simp only
  rw [if_neg h3, if_neg (by omega), if_neg h4]
  have e : bytF g ((p + 7) / 8 * 8 + 32) n = bytF f ((p + 7) / 8 * 8 + 32) n := by
    unfold bytF
    refine List.map_congr_left (fun k hk => ?_)
    have := List.mem_range.1 hk
    exact takeN_congr 8 (fun i hi => (ha _ (by omega)).symm)
  rw [e]
theorem fstL_loc {f g : Nat → Bool} {p k : Nat} (ha : Alike f g (p + 3 * k)) : fstL f p k = fstL g p k := by
  unfold fstL
  refine List.map_congr_left (fun t ht => ?_)
  by_cases h : ordL.idxOf t < k
  · rw [if_pos h, if_pos h]
    exact takeN_congr 3 (fun i hi => ha _ (by omega))
  · rw [if_neg h, if_neg h]
theorem rowF_place {ns : List Nat} {f : Nat → Bool} {L n : Nat} : ∀ (k p : Nat) (row row' : List Nat) (q : Nat), p ≤ L → rowF ns f L n k p row = .ok (row', q) → p ≤ q ∧ q ≤ L
  | 0, p, row, row', q, hp, h => by rw [rowF] at h; cases h
  | k + 1, p, row, row', q, hp, h => by
    rw [rowF] at h
    split at h
    · split at h
      · cases h
      · simp only [Except.ok.injEq, Prod.mk.injEq] at h; omega
    · cases hx : nxF ns f L p with
      | error e => rw [hx] at h; cases h
      | ok r1 =>
        obtain ⟨sym, p1⟩ := r1
        rw [hx] at h
        simp only at h
        have a1 := nxF_place hx
        split at h
        · cases h
        · cases ht : tkF f L p1 (tmF sym).2 with
          | error e => rw [ht] at h; cases h
          | ok m =>
            rw [ht] at h
            simp only at h
            have a2 := tkF_ok ht
            have a3 := rowF_place k _ _ _ _ a2.1 h
            omega
theorem rowF_loc {ns : List Nat} {f g : Nat → Bool} {L M n : Nat} : ∀ (k k' p : Nat) (row row' : List Nat) (q : Nat), p ≤ L → rowF ns f L n k p row = .ok (row', q) → Alike f g q → q ≤ M → q < p + k' → rowF ns g M n k' p row = .ok (row', q)
  | 0, k', p, row, row', q, hp, h, ha, hM, hk => by rw [rowF] at h; cases h
  | k + 1, k', p, row, row', q, hp, h, ha, hM, hk => by
    have a0 := rowF_place _ _ _ _ _ hp h
    obtain ⟨m, rfl⟩ : ∃ m, k' = m + 1 := ⟨k' - 1, by omega⟩
    rw [rowF] at h ⊢
    split at h
    · rename_i hn
      rw [if_pos hn]; exact h
    · rename_i hn
      rw [if_neg hn]
      cases hx : nxF ns f L p with
      | error e => rw [hx] at h; cases h
      | ok r1 =>
        obtain ⟨sym, p1⟩ := r1
        rw [hx] at h
        simp only at h
        have a1 := nxF_place hx
        split at h
        · cases h
        · rename_i hs
          cases ht : tkF f L p1 (tmF sym).2 with
          | error e => rw [ht] at h; cases h
          | ok x =>
            rw [ht] at h
            simp only at h
            have a2 := tkF_ok ht
            have a3 := rowF_place k _ _ _ _ a2.1 h
            rw [nxF_loc hx (ha.less (by omega)) (by omega)]
            simp only
            rw [if_neg hs, tkF_loc ht (ha.less (by omega)) (by omega)]
            simp only
            exact rowF_loc k m _ _ _ _ a2.1 h ha hM (by omega)
theorem dynF_loc {f g : Nat → Bool} {L M p : Nat} {ls ds : List Nat} {q : Nat} (h : dynF f L p = .ok (ls, ds, q)) (ha : Alike f g q) (hM : q ≤ M) : dynF g M p = .ok (ls, ds, q) ∧ p ≤ q := by
  by_cases hL : p + 14 ≤ L
  · rw [dyn_long hL] at h
    obtain ⟨a, hA⟩ : ∃ a, a = takeN (fun i => f (p + i)) 5 := ⟨_, rfl⟩
    obtain ⟨b, hB⟩ : ∃ b, b = takeN (fun i => f (p + 5 + i)) 5 := ⟨_, rfl⟩
    obtain ⟨c, hC⟩ : ∃ c, c = takeN (fun i => f (p + 10 + i)) 4 := ⟨_, rfl⟩
    rw [← hA, ← hB, ← hC] at h
    unfold dynT at h
    split at h
    · cases h
    · rename_i h1
      split at h
      · cases h
      · rename_i h2
        split at h
        · cases h
        · rename_i h3
          cases hro : rowF (fstL f (p + 14) (c + 4)) f L (a + b + 258) (L + 1) (p + 14 + 3 * (c + 4)) [] with
          | error e => rw [hro] at h; cases h
          | ok r =>
            obtain ⟨row, p1⟩ := r
            rw [hro] at h
            simp only at h
            have hq : p1 = q := by
              split at h
              · cases h
              · split at h
                · cases h
                · simp only [Except.ok.injEq, Prod.mk.injEq] at h; exact h.2.2
            subst hq
            have a3 := rowF_place _ _ _ _ _ (by omega) hro
            refine ⟨?_, by omega⟩
            rw [dyn_long (by omega)]
            have e1 : takeN (fun i => g (p + i)) 5 = a := by rw [hA]; exact takeN_congr 5 (fun i hi => (ha _ (by omega)).symm)
            have e2 : takeN (fun i => g (p + 5 + i)) 5 = b := by rw [hB]; exact takeN_congr 5 (fun i hi => (ha _ (by omega)).symm)
            have e3 : takeN (fun i => g (p + 10 + i)) 4 = c := by rw [hC]; exact takeN_congr 4 (fun i hi => (ha _ (by omega)).symm)
            have e4 : fstL g (p + 14) (c + 4) = fstL f (p + 14) (c + 4) := (fstL_loc (ha.less (by omega))).symm
            rw [e1, e2, e3]
            unfold dynT
            rw [if_neg h1, if_neg (by omega), e4, if_neg h3, rowF_loc _ (M + 1) _ _ _ _ (by omega) hro ha hM (by omega)]
            exact h
  · rw [dyn_short (by omega)] at h; cases h
theorem bdF_loc {f g : Nat → Bool} {L M most p out k : Nat} {b : Blk} {q o : Nat} (h : bdF f L most p out k = .ok (b, q, o)) (ha : Alike f g q) (hM : q ≤ M) : bdF g M most p out k = .ok (b, q, o) ∧ p ≤ q ∧ q ≤ L := by
  unfold bdF at h ⊢
  split at h
  · rename_i hk
    rw [if_pos hk]
    cases hs : stF f L most p out with
    | error e => rw [hs] at h; cases h
    | ok r =>
      obtain ⟨x, y, z⟩ := r
      rw [hs] at h
      simp only [Except.ok.injEq, Prod.mk.injEq] at h
      obtain ⟨rfl, rfl, rfl⟩ := h
      have hpl := stF_place hs
      obtain ⟨n, m, _, _, _, _, _, hy, _, hL⟩ := hpl
      rw [stF_loc hs ha hM]
      exact ⟨rfl, by omega, hL⟩
  · rename_i hk0
    rw [if_neg hk0]
    split at h
    · rename_i hk
      rw [if_pos hk]
      cases hs : tksF fixL fixD f L most (L + 1) p out [] with
      | error e => rw [hs] at h; cases h
      | ok r =>
        obtain ⟨x, y, z⟩ := r
        rw [hs] at h
        simp only [Except.ok.injEq, Prod.mk.injEq] at h
        obtain ⟨rfl, rfl, rfl⟩ := h
        have hpl := tksF_place _ _ _ _ _ _ _ hs
        rw [tksF_loc _ (M + 1) _ _ _ _ _ _ hs ha hM (by omega)]
        exact ⟨rfl, by omega, hpl.2⟩
    · rename_i hk1
      rw [if_neg hk1]
      split at h
      · rename_i hk
        rw [if_pos hk]
        cases hd : dynF f L p with
        | error e => rw [hd] at h; cases h
        | ok r =>
          obtain ⟨ls, ds, p1⟩ := r
          rw [hd] at h
          simp only at h
          cases hs : tksF ls ds f L most (L + 1) p1 out [] with
          | error e => rw [hs] at h; cases h
          | ok r =>
            obtain ⟨x, y, z⟩ := r
            rw [hs] at h
            simp only [Except.ok.injEq, Prod.mk.injEq] at h
            obtain ⟨rfl, rfl, rfl⟩ := h
            have hpl := tksF_place _ _ _ _ _ _ _ hs
            obtain ⟨hd1, hd2⟩ := dynF_loc (M := M) hd (ha.less (by omega)) (by omega)
            rw [hd1]
            simp only
            rw [tksF_loc _ (M + 1) _ _ _ _ _ _ hs ha hM (by omega)]
            exact ⟨rfl, by omega, hpl.2⟩
      · cases h
theorem blkF_loc {f g : Nat → Bool} {L M most p out : Nat} {b : Blk} {last q o : Nat} (h : blkF f L most p out = .ok (b, last, q, o)) (ha : Alike f g q) (hM : q ≤ M) : blkF g M most p out = .ok (b, last, q, o) ∧ p < q ∧ q ≤ L := by
  rw [blk_bd] at h ⊢
  cases h1 : tkF f L p 1 with
  | error e => rw [h1] at h; cases h
  | ok la =>
    rw [h1] at h
    simp only at h
    cases h2 : tkF f L (p + 1) 2 with
    | error e => rw [h2] at h; cases h
    | ok k =>
      rw [h2] at h
      simp only at h
      cases h3 : bdF f L most (p + 3) out k with
      | error e => rw [h3] at h; cases h
      | ok r =>
        obtain ⟨x, y, z⟩ := r
        rw [h3] at h
        simp only [Except.ok.injEq, Prod.mk.injEq] at h
        obtain ⟨rfl, rfl, rfl, rfl⟩ := h
        obtain ⟨b1, b2, b3⟩ := bdF_loc (M := M) h3 ha hM
        rw [tkF_loc h1 (ha.less (by omega)) (by omega)]
        simp only
        rw [tkF_loc h2 (ha.less (by omega)) (by omega)]
        simp only
        rw [b1]
        exact ⟨rfl, by omega, b3⟩
theorem blksF_place {f : Nat → Bool} {L most : Nat} : ∀ (k p out : Nat) (acc bs : List Blk) (q : Nat), blksF f L most k p out acc = .ok (bs, q) → p < q ∧ q ≤ L
  | 0, p, out, acc, bs, q, h => by rw [blksF] at h; cases h
  | k + 1, p, out, acc, bs, q, h => by
    rw [blksF] at h
    cases hb : blkF f L most p out with
    | error e => rw [hb] at h; cases h
    | ok r =>
      obtain ⟨b, la, p1, o1⟩ := r
      rw [hb] at h
      simp only at h
      have a1 := (blkF_loc (g := f) (M := p1) hb (fun _ _ => rfl) (Nat.le_refl _)).2
      split at h
      · simp only [Except.ok.injEq, Prod.mk.injEq] at h; omega
      · have := blksF_place k p1 o1 _ bs q h; omega
theorem blksF_loc {f g : Nat → Bool} {L M most : Nat} : ∀ (k k' p out : Nat) (acc bs : List Blk) (q : Nat), blksF f L most k p out acc = .ok (bs, q) → Alike f g q → q ≤ M → q ≤ p + k' → blksF g M most k' p out acc = .ok (bs, q)
  | 0, k', p, out, acc, bs, q, h, ha, hM, hk => by rw [blksF] at h; cases h
  | k + 1, k', p, out, acc, bs, q, h, ha, hM, hk => by
    have a0 := blksF_place _ _ _ _ _ _ h
    obtain ⟨m, rfl⟩ : ∃ m, k' = m + 1 := ⟨k' - 1, by omega⟩
    rw [blksF] at h ⊢
    cases hb : blkF f L most p out with
    | error e => rw [hb] at h; cases h
    | ok r =>
      obtain ⟨b, la, p1, o1⟩ := r
      rw [hb] at h
      simp only at h
      have a1 := (blkF_loc (g := f) (M := p1) hb (fun _ _ => rfl) (Nat.le_refl _)).2
      split at h
      · rename_i hl
        have hq : p1 = q := by simp only [Except.ok.injEq, Prod.mk.injEq] at h; exact h.2
        subst hq
        rw [(blkF_loc hb ha hM).1]
        simp only
        rw [if_pos hl]; exact h
      · rename_i hl
        have a2 := blksF_place k p1 o1 _ bs q h
        rw [(blkF_loc (M := M) hb (ha.less (by omega)) (by omega)).1]
        simp only
        rw [if_neg hl]
        exact blksF_loc k m p1 o1 _ bs q h ha hM (by omega)
theorem ex_all (s : ByteArray) : s = s.extract 0 s.size := by
  apply ByteArray.ext
  apply Array.ext'
  rw [extract_data, List.drop_zero, List.take_of_length_le (by rw [size_toList]; omega)]
theorem mid_eq (a s b : ByteArray) : s ++ b = (a ++ s ++ b).extract a.size (a ++ s ++ b).size := by
  apply ByteArray.ext
  apply Array.ext'
  rw [extract_data]
  simp only [ByteArray.data_append, Array.toList_append, ByteArray.size_append, List.append_assoc]
  rw [List.drop_append_of_le_length (by rw [size_toList]; exact Nat.le_refl _), List.drop_of_length_le (by rw [size_toList]; exact Nat.le_refl _), List.nil_append, List.take_of_length_le]
  rw [List.length_append, size_toList, size_toList]; omega
theorem bits_front (s b : ByteArray) : Alike (bF8 s) (bF8 (s ++ b)) (8 * s.size) := by
  intro i hi
  unfold bF8 sbit
  rw [ByteArray.data_append, Array.toList_append, List.getD_eq_getElem?_getD, List.getD_eq_getElem?_getD, List.getElem?_append_left (by rw [size_toList]; omega)]
end Go.Proofs.Ythkppipdflmekaa
