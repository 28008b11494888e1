/- What is read well hangs on no bit behind its end: the plain mathematics. A stream that is cut is wanting: the plain mathematics. What a stream says is as long as what has come out; a smaller limit: the plain mathematics. What blocks say, and a smaller limit: the plain mathematics. -/
import Derived.Test.YtbknflckdbfogaaGreatQInfI
namespace Go.Proofs.YtbknflckdbfogaaGreat
open Go.RowKit
set_option linter.unusedVariables false

/-- Alike up to a place. -/
def Alike (f g : Nat → Bool) (q : Nat) : Prop := ∀ i, i < q → f i = g i
theorem Alike.less {f g : Nat → Bool} {q p : Nat} (h : Alike f g q) (hp : p ≤ q) : Alike f g p := fun i hi => h i (by omega)
theorem tkF_loc {f g : Nat → Bool} {L M p n x : Nat} (h : tkF f L p n = .ok x) (ha : Alike f g (p + n)) (hM : p + n ≤ M) : tkF g M p n = .ok x := by
  obtain ⟨h1, rfl⟩ := tkF_ok h
  unfold tkF
  rw [if_neg (by omega), takeN_congr n (fun i hi => (ha (p + i) (by omega)).symm)]
theorem pfB_loc {f g : Nat → Bool} {n : Nat} (h : ∀ i, i < n → f i = g i) : pfB f n = pfB g n := by
  unfold pfB
  refine List.map_congr_left (fun i hi => h i (List.mem_range.1 hi))
theorem nxG_place {ns : List Nat} {f : Nat → Bool} {L p : Nat} : ∀ (k j t q : Nat), nxG ns f L p k j = .ok (t, q) → p + j < q ∧ q ≤ L
  | 0, j, t, q, h => by rw [nxG] at h; cases h
  | k + 1, j, t, q, h => by
    rw [nxG] at h
    split at h
    · cases h
    · split at h
      · simp only [Except.ok.injEq, Prod.mk.injEq] at h; omega
      · split at h
        · have := nxG_place k (j + 1) t q h; omega
        · cases h
theorem nxG_loc {ns : List Nat} {f g : Nat → Bool} {L M p : Nat} : ∀ (k j t q : Nat), nxG ns f L p k j = .ok (t, q) → Alike f g q → q ≤ M → nxG ns g M p k j = .ok (t, q)
  | 0, j, t, q, h, ha, hM => by rw [nxG] at h; cases h
  | k + 1, j, t, q, h, ha, hM => by
    have hpl := nxG_place _ _ _ _ h
    rw [nxG] at h ⊢
    have e : pfB (fun i => g (p + i)) (j + 1) = pfB (fun i => f (p + i)) (j + 1) := pfB_loc (fun i hi => (ha (p + i) (by omega)).symm)
    rw [e, if_neg (by omega)]
    split at h
    · cases h
    · split at h
      · exact h
      · split at h
        · rename_i hany
          rw [if_pos hany]
          exact nxG_loc k (j + 1) t q h ha hM
        · cases h
theorem nxF_loc {ns : List Nat} {f g : Nat → Bool} {L M p t q : Nat} (h : nxF ns f L p = .ok (t, q)) (ha : Alike f g q) (hM : q ≤ M) : nxF ns g M p = .ok (t, q) := nxG_loc 16 0 t q h ha hM
theorem nxF_place {ns : List Nat} {f : Nat → Bool} {L p t q : Nat} (h : nxF ns f L p = .ok (t, q)) : p < q ∧ q ≤ L := by
  have := nxG_place 16 0 t q h; omega
theorem szE_loc {f g : Nat → Bool} {L M p i x q : Nat} {far : Bool} (h : szE f L p i far = .ok (x, q)) (ha : Alike f g q) (hM : q ≤ M) : szE g M p i far = .ok (x, q) := by
  unfold szE at h ⊢
  split at h
  · cases h
  · rename_i h0
    rw [if_neg h0]
    cases ht : tkF f L p (szF i far).2 with
    | error e => rw [ht] at h; cases h
    | ok m =>
      rw [ht] at h
      simp only [Except.ok.injEq, Prod.mk.injEq] at h
      obtain ⟨rfl, rfl⟩ := h
      rw [tkF_loc ht ha hM]
theorem szE_place {f : Nat → Bool} {L p i x q : Nat} {far : Bool} (h : szE f L p i far = .ok (x, q)) : p ≤ q ∧ q ≤ L := by
  unfold szE at h
  split at h
  · cases h
  · cases ht : tkF f L p (szF i far).2 with
    | error e => rw [ht] at h; cases h
    | ok m =>
      rw [ht] at h
      simp only [Except.ok.injEq, Prod.mk.injEq] at h
      have := tkF_ok ht
      omega
theorem tkE_place {ds : List Nat} {f : Nat → Bool} {L most p out sym q o : Nat} {t : Tok} (hp : p ≤ L) (h : tkE ds f L most p out sym = .ok (t, q, o)) : p ≤ q ∧ q ≤ L := by
  unfold tkE at h
  split at h
  · split at h
    · cases h
    · simp only [Except.ok.injEq, Prod.mk.injEq] at h; omega
  · cases h1 : szE f L p (sym - 257) false with
    | error e => rw [h1] at h; cases h
    | ok r1 =>
      obtain ⟨size, p1⟩ := r1
      rw [h1] at h
      simp only at h
      cases h2 : nxF ds f L p1 with
      | error e => rw [h2] at h; cases h
      | ok r2 =>
        obtain ⟨d, p2⟩ := r2
        rw [h2] at h
        simp only at h
        cases h3 : szE f L p2 d true with
        | error e => rw [h3] at h; cases h
        | ok r3 =>
          obtain ⟨dist, p3⟩ := r3
          rw [h3] at h
          simp only at h
          have a1 := szE_place h1
          have a2 := nxF_place h2
          have a3 := szE_place h3
          split at h
          · cases h
          · split at h
            · cases h
            · simp only [Except.ok.injEq, Prod.mk.injEq] at h; omega
theorem tkE_loc {ds : List Nat} {f g : Nat → Bool} {L M most p out sym q o : Nat} {t : Tok} (hp : p ≤ L) (h : tkE ds f L most p out sym = .ok (t, q, o)) (ha : Alike f g q) (hM : q ≤ M) : tkE ds g M most p out sym = .ok (t, q, o) := by
  unfold tkE at h ⊢
  split at h
  · rename_i hs
    rw [if_pos hs]; exact h
  · rename_i hs
    rw [if_neg hs]
    cases h1 : szE f L p (sym - 257) false with
    | error e => rw [h1] at h; cases h
    | ok r1 =>
      obtain ⟨size, p1⟩ := r1
      rw [h1] at h
      simp only at h
      cases h2 : nxF ds f L p1 with
      | error e => rw [h2] at h; cases h
      | ok r2 =>
        obtain ⟨d, p2⟩ := r2
        rw [h2] at h
        simp only at h
        cases h3 : szE f L p2 d true with
        | error e => rw [h3] at h; cases h
        | ok r3 =>
          obtain ⟨dist, p3⟩ := r3
          rw [h3] at h
          simp only at h
          have a2 := nxF_place h2
          have a3 := szE_place h3
          have hq : p3 = q := by
            split at h
            · cases h
            · split at h
              · cases h
              · simp only [Except.ok.injEq, Prod.mk.injEq] at h; exact h.2.1
          subst hq
          rw [szE_loc h1 (ha.less (by omega)) (by omega)]
          simp only
          rw [nxF_loc h2 (ha.less (by omega)) (by omega)]
          simp only
          rw [szE_loc h3 ha hM]
          exact h
theorem tksF_place {ls ds : List Nat} {f : Nat → Bool} {L most : Nat} : ∀ (k p out : Nat) (acc ts : List Tok) (q o : Nat), tksF ls ds f L most k p out acc = .ok (ts, q, o) → p < q ∧ q ≤ L
  | 0, p, out, acc, ts, q, o, h => by rw [tksF] at h; cases h
  | k + 1, p, out, acc, ts, q, o, h => by
    rw [tksF] at h
    cases hx : nxF ls f L p with
    | error e => rw [hx] at h; cases h
    | ok r1 =>
      obtain ⟨sym, p1⟩ := r1
      rw [hx] at h
      simp only at h
      have a1 := nxF_place hx
      split at h
      · simp only [Except.ok.injEq, Prod.mk.injEq] at h; omega
      · cases ht : tkE ds f L most p1 out sym with
        | error e => rw [ht] at h; cases h
        | ok r2 =>
          obtain ⟨t, p2, o2⟩ := r2
          rw [ht] at h
          simp only at h
          have a2 := tkE_place a1.2 ht
          have a3 := tksF_place k p2 o2 _ ts q o h
          omega
theorem tksF_loc {ls ds : List Nat} {f g : Nat → Bool} {L M most : Nat} : ∀ (k k' p out : Nat) (acc ts : List Tok) (q o : Nat), tksF ls ds f L most k p out acc = .ok (ts, q, o) → Alike f g q → q ≤ M → q ≤ p + k' → tksF ls ds g M most k' p out acc = .ok (ts, q, o)
  | 0, k', p, out, acc, ts, q, o, h, ha, hM, hk => by rw [tksF] at h; cases h
  | k + 1, k', p, out, acc, ts, q, o, h, ha, hM, hk => by
    have a0 := tksF_place _ _ _ _ _ _ _ h
    obtain ⟨m, rfl⟩ : ∃ m, k' = m + 1 := ⟨k' - 1, by omega⟩
    rw [tksF] at h ⊢
    cases hx : nxF ls f L p with
    | error e => rw [hx] at h; cases h
    | ok r1 =>
      obtain ⟨sym, p1⟩ := r1
      rw [hx] at h
      simp only at h
      have a1 := nxF_place hx
      split at h
      · rename_i hs
        have hq : p1 = q := by simp only [Except.ok.injEq, Prod.mk.injEq] at h; exact h.2.1
        subst hq
        rw [nxF_loc hx ha hM]
        simp only
        rw [if_pos hs]; exact h
      · rename_i hs
        cases ht : tkE ds f L most p1 out sym with
        | error e => rw [ht] at h; cases h
        | ok r2 =>
          obtain ⟨t, p2, o2⟩ := r2
          rw [ht] at h
          simp only at h
          have a2 := tkE_place a1.2 ht
          have a3 := tksF_place k p2 o2 _ ts q o h
          rw [nxF_loc hx (ha.less (by omega)) (by omega)]
          simp only
          rw [if_neg hs, tkE_loc a1.2 ht (ha.less (by omega)) (by omega)]
          simp only
          exact tksF_loc k m p2 o2 _ ts q o h ha hM (by omega)
theorem stF_place {f : Nat → Bool} {L most p out : Nat} {b : List Nat} {q o : Nat} (h : stF f L most p out = .ok (b, q, o)) : ∃ n m, tkF f L ((p + 7) / 8 * 8) 16 = .ok n ∧ tkF f L ((p + 7) / 8 * 8 + 16) 16 = .ok m ∧ ¬ n + m ≠ 65535 ∧ ¬ most < out + n ∧ b = bytF f ((p + 7) / 8 * 8 + 32) n ∧ q = (p + 7) / 8 * 8 + 32 + 8 * n ∧ o = out + n ∧ q ≤ L := by
  unfold stF at h
  cases h1 : tkF f L ((p + 7) / 8 * 8) 16 with
  | error e => rw [h1] at h; cases h
  | ok n =>
    rw [h1] at h
    simp only at h
    cases h2 : tkF f L ((p + 7) / 8 * 8 + 16) 16 with
    | error e => rw [h2] at h; cases h
    | ok m =>
      rw [h2] at h
      simp only at h
      split at h
      · cases h
      · rename_i a1
        split at h
        · cases h
        · rename_i a2
          split at h
          · cases h
          · rename_i a3
            simp only [Except.ok.injEq, Prod.mk.injEq] at h
            obtain ⟨rfl, rfl, rfl⟩ := h
            exact ⟨n, m, rfl, rfl, a1, a3, rfl, rfl, rfl, by omega⟩
theorem stF_loc {f g : Nat → Bool} {L M most p out : Nat} {b : List Nat} {q o : Nat} (h : stF f L most p out = .ok (b, q, o)) (ha : Alike f g q) (hM : q ≤ M) : stF g M most p out = .ok (b, q, o) := by
  obtain ⟨n, m, h1, h2, h3, h4, rfl, rfl, rfl, h5⟩ := stF_place h
  unfold stF
  rw [tkF_loc h1 (ha.less (by omega)) (by omega)]
  simp only
  rw [tkF_loc h2 (ha.less (by omega)) (by omega)]
  simp only
  rw [if_neg h3, if_neg (by omega), if_neg h4]
  have e : bytF g ((p + 7) / 8 * 8 + 32) n = bytF f ((p + 7) / 8 * 8 + 32) n := by
    unfold bytF
    refine List.map_congr_left (fun k hk => ?_)
    have := List.mem_range.1 hk
    exact takeN_congr 8 (fun i hi => (ha _ (by omega)).symm)
  rw [e]
theorem fstL_loc {f g : Nat → Bool} {p k : Nat} (ha : Alike f g (p + 3 * k)) : fstL f p k = fstL g p k := by
  unfold fstL
  refine List.map_congr_left (fun t ht => ?_)
  by_cases h : ordL.idxOf t < k
  · rw [if_pos h, if_pos h]
    exact takeN_congr 3 (fun i hi => ha _ (by omega))
  · rw [if_neg h, if_neg h]
theorem rowF_place {ns : List Nat} {f : Nat → Bool} {L n : Nat} : ∀ (k p : Nat) (row row' : List Nat) (q : Nat), p ≤ L → rowF ns f L n k p row = .ok (row', q) → p ≤ q ∧ q ≤ L
  | 0, p, row, row', q, hp, h => by rw [rowF] at h; cases h
  | k + 1, p, row, row', q, hp, h => by
    rw [rowF] at h
    split at h
    · split at h
      · cases h
      · simp only [Except.ok.injEq, Prod.mk.injEq] at h; omega
    · cases hx : nxF ns f L p with
      | error e => rw [hx] at h; cases h
      | ok r1 =>
        obtain ⟨sym, p1⟩ := r1
        rw [hx] at h
        simp only at h
        have a1 := nxF_place hx
        split at h
        · cases h
        · cases ht : tkF f L p1 (tmF sym).2 with
          | error e => rw [ht] at h; cases h
          | ok m =>
            rw [ht] at h
            simp only at h
            have a2 := tkF_ok ht
            have a3 := rowF_place k _ _ _ _ a2.1 h
            omega
theorem rowF_loc {ns : List Nat} {f g : Nat → Bool} {L M n : Nat} : ∀ (k k' p : Nat) (row row' : List Nat) (q : Nat), p ≤ L → rowF ns f L n k p row = .ok (row', q) → Alike f g q → q ≤ M → q < p + k' → rowF ns g M n k' p row = .ok (row', q)
  | 0, k', p, row, row', q, hp, h, ha, hM, hk => by rw [rowF] at h; cases h
  | k + 1, k', p, row, row', q, hp, h, ha, hM, hk => by
    have a0 := rowF_place _ _ _ _ _ hp h
    obtain ⟨m, rfl⟩ : ∃ m, k' = m + 1 := ⟨k' - 1, by omega⟩
    rw [rowF] at h ⊢
    split at h
    · rename_i hn
      rw [if_pos hn]; exact h
    · rename_i hn
      rw [if_neg hn]
      cases hx : nxF ns f L p with
      | error e => rw [hx] at h; cases h
      | ok r1 =>
        obtain ⟨sym, p1⟩ := r1
        rw [hx] at h
        simp only at h
        have a1 := nxF_place hx
        split at h
        · cases h
        · rename_i hs
          cases ht : tkF f L p1 (tmF sym).2 with
          | error e => rw [ht] at h; cases h
          | ok x =>
            rw [ht] at h
            simp only at h
            have a2 := tkF_ok ht
            have a3 := rowF_place k _ _ _ _ a2.1 h
            rw [nxF_loc hx (ha.less (by omega)) (by omega)]
            simp only
            rw [if_neg hs, tkF_loc ht (ha.less (by omega)) (by omega)]
            simp only
            exact rowF_loc k m _ _ _ _ a2.1 h ha hM (by omega)
theorem dynF_loc {f g : Nat → Bool} {L M p : Nat} {ls ds : List Nat} {q : Nat} (h : dynF f L p = .ok (ls, ds, q)) (ha : Alike f g q) (hM : q ≤ M) : dynF g M p = .ok (ls, ds, q) ∧ p ≤ q := by
  by_cases hL : p + 14 ≤ L
  · rw [dyn_long hL] at h
    obtain ⟨a, hA⟩ : ∃ a, a = takeN (fun i => f (p + i)) 5 := ⟨_, rfl⟩
    obtain ⟨b, hB⟩ : ∃ b, b = takeN (fun i => f (p + 5 + i)) 5 := ⟨_, rfl⟩
    obtain ⟨c, hC⟩ : ∃ c, c = takeN (fun i => f (p + 10 + i)) 4 := ⟨_, rfl⟩
    rw [← hA, ← hB, ← hC] at h
    unfold dynT at h
    split at h
    · cases h
    · rename_i h1
      split at h
      · cases h
      · rename_i h2
        split at h
        · cases h
        · rename_i h3
          cases hro : rowF (fstL f (p + 14) (c + 4)) f L (a + b + 258) (L + 1) (p + 14 + 3 * (c + 4)) [] with
          | error e => rw [hro] at h; cases h
          | ok r =>
            obtain ⟨row, p1⟩ := r
            rw [hro] at h
            simp only at h
            have hq : p1 = q := by
              split at h
              · cases h
              · split at h
                · cases h
                · simp only [Except.ok.injEq, Prod.mk.injEq] at h; exact h.2.2
            subst hq
            have a3 := rowF_place _ _ _ _ _ (by omega) hro
            refine ⟨?_, by omega⟩
            rw [dyn_long (by omega)]
            have e1 : takeN (fun i => g (p + i)) 5 = a := by rw [hA]; exact takeN_congr 5 (fun i hi => (ha _ (by omega)).symm)
            have e2 : takeN (fun i => g (p + 5 + i)) 5 = b := by rw [hB]; exact takeN_congr 5 (fun i hi => (ha _ (by omega)).symm)
            have e3 : takeN (fun i => g (p + 10 + i)) 4 = c := by rw [hC]; exact takeN_congr 4 (fun i hi => (ha _ (by omega)).symm)
            have e4 : fstL g (p + 14) (c + 4) = fstL f (p + 14) (c + 4) := (fstL_loc (ha.less (by omega))).symm
            rw [e1, e2, e3]
            unfold dynT
            rw [if_neg h1, if_neg (by omega), e4, if_neg h3, rowF_loc _ (M + 1) _ _ _ _ (by omega) hro ha hM (by omega)]
            exact h
  · rw [dyn_short (by omega)] at h; cases h
theorem bdF_loc {f g : Nat → Bool} {L M most p out k : Nat} {b : Blk} {q o : Nat} (h : bdF f L most p out k = .ok (b, q, o)) (ha : Alike f g q) (hM : q ≤ M) : bdF g M most p out k = .ok (b, q, o) ∧ p ≤ q ∧ q ≤ L := by
  unfold bdF at h ⊢
  split at h
  · rename_i hk
    rw [if_pos hk]
    cases hs : stF f L most p out with
    | error e => rw [hs] at h; cases h
    | ok r =>
      obtain ⟨x, y, z⟩ := r
      rw [hs] at h
      simp only [Except.ok.injEq, Prod.mk.injEq] at h
      obtain ⟨rfl, rfl, rfl⟩ := h
      have hpl := stF_place hs
      obtain ⟨n, m, _, _, _, _, _, hy, _, hL⟩ := hpl
      rw [stF_loc hs ha hM]
      exact ⟨rfl, by omega, hL⟩
  · rename_i hk0
    rw [if_neg hk0]
    split at h
    · rename_i hk
      rw [if_pos hk]
      cases hs : tksF fixL fixD f L most (L + 1) p out [] with
      | error e => rw [hs] at h; cases h
      | ok r =>
        obtain ⟨x, y, z⟩ := r
        rw [hs] at h
        simp only [Except.ok.injEq, Prod.mk.injEq] at h
        obtain ⟨rfl, rfl, rfl⟩ := h
        have hpl := tksF_place _ _ _ _ _ _ _ hs
        rw [tksF_loc _ (M + 1) _ _ _ _ _ _ hs ha hM (by omega)]
        exact ⟨rfl, by omega, hpl.2⟩
    · rename_i hk1
      rw [if_neg hk1]
      split at h
      · rename_i hk
        rw [if_pos hk]
        cases hd : dynF f L p with
        | error e => rw [hd] at h; cases h
        | ok r =>
          obtain ⟨ls, ds, p1⟩ := r
          rw [hd] at h
          simp only at h
          cases hs : tksF ls ds f L most (L + 1) p1 out [] with
          | error e => rw [hs] at h; cases h
          | ok r =>
            obtain ⟨x, y, z⟩ := r
            rw [hs] at h
            simp only [Except.ok.injEq, Prod.mk.injEq] at h
            obtain ⟨rfl, rfl, rfl⟩ := h
            have hpl := tksF_place _ _ _ _ _ _ _ hs
            obtain ⟨hd1, hd2⟩ := dynF_loc (M := M) hd (ha.less (by omega)) (by omega)
            rw [hd1]
            simp only
            rw [tksF_loc _ (M + 1) _ _ _ _ _ _ hs ha hM (by omega)]
            exact ⟨rfl, by omega, hpl.2⟩
      · cases h
theorem blkF_loc {f g : Nat → Bool} {L M most p out : Nat} {b : Blk} {last q o : Nat} (h : blkF f L most p out = .ok (b, last, q, o)) (ha : Alike f g q) (hM : q ≤ M) : blkF g M most p out = .ok (b, last, q, o) ∧ p < q ∧ q ≤ L := by
  rw [blk_bd] at h ⊢
  cases h1 : tkF f L p 1 with
  | error e => rw [h1] at h; cases h
  | ok la =>
    rw [h1] at h
    simp only at h
    cases h2 : tkF f L (p + 1) 2 with
    | error e => rw [h2] at h; cases h
    | ok k =>
      rw [h2] at h
      simp only at h
      cases h3 : bdF f L most (p + 3) out k with
      | error e => rw [h3] at h; cases h
      | ok r =>
        obtain ⟨x, y, z⟩ := r
        rw [h3] at h
        simp only [Except.ok.injEq, Prod.mk.injEq] at h
        obtain ⟨rfl, rfl, rfl, rfl⟩ := h
        obtain ⟨b1, b2, b3⟩ := bdF_loc (M := M) h3 ha hM
        rw [tkF_loc h1 (ha.less (by omega)) (by omega)]
        simp only
        rw [tkF_loc h2 (ha.less (by omega)) (by omega)]
        simp only
        rw [b1]
        exact ⟨rfl, by omega, b3⟩
theorem blksF_place {f : Nat → Bool} {L most : Nat} : ∀ (k p out : Nat) (acc bs : List Blk) (q : Nat), blksF f L most k p out acc = .ok (bs, q) → p < q ∧ q ≤ L
  | 0, p, out, acc, bs, q, h => by rw [blksF] at h; cases h
  | k + 1, p, out, acc, bs, q, h => by
    rw [blksF] at h
    cases hb : blkF f L most p out with
    | error e => rw [hb] at h; cases h
    | ok r =>
      obtain ⟨b, la, p1, o1⟩ := r
      rw [hb] at h
      simp only at h
      have a1 := (blkF_loc (g := f) (M := p1) hb (fun _ _ => rfl) (Nat.le_refl _)).2
      split at h
      · simp only [Except.ok.injEq, Prod.mk.injEq] at h; omega
      · have := blksF_place k p1 o1 _ bs q h; omega
theorem blksF_loc {f g : Nat → Bool} {L M most : Nat} : ∀ (k k' p out : Nat) (acc bs : List Blk) (q : Nat), blksF f L most k p out acc = .ok (bs, q) → Alike f g q → q ≤ M → q ≤ p + k' → blksF g M most k' p out acc = .ok (bs, q)
  | 0, k', p, out, acc, bs, q, h, ha, hM, hk => by rw [blksF] at h; cases h
  | k + 1, k', p, out, acc, bs, q, h, ha, hM, hk => by
    have a0 := blksF_place _ _ _ _ _ _ h
    obtain ⟨m, rfl⟩ : ∃ m, k' = m + 1 := ⟨k' - 1, by omega⟩
    rw [blksF] at h ⊢
    cases hb : blkF f L most p out with
    | error e => rw [hb] at h; cases h
    | ok r =>
      obtain ⟨b, la, p1, o1⟩ := r
      rw [hb] at h
      simp only at h
      have a1 := (blkF_loc (g := f) (M := p1) hb (fun _ _ => rfl) (Nat.le_refl _)).2
      split at h
      · rename_i hl
        have hq : p1 = q := by simp only [Except.ok.injEq, Prod.mk.injEq] at h; exact h.2
        subst hq
        rw [(blkF_loc hb ha hM).1]
        simp only
        rw [if_pos hl]; exact h
      · rename_i hl
        have a2 := blksF_place k p1 o1 _ bs q h
        rw [(blkF_loc (M := M) hb (ha.less (by omega)) (by omega)).1]
        simp only
        rw [if_neg hl]
        exact blksF_loc k m p1 o1 _ bs q h ha hM (by omega)
theorem ex_all (s : ByteArray) : s = s.extract 0 s.size := by
  apply ByteArray.ext
  apply Array.ext'
  rw [extract_data, List.drop_zero, List.take_of_length_le (by rw [size_toList]; omega)]
theorem mid_eq (a s b : ByteArray) : s ++ b = (a ++ s ++ b).extract a.size (a ++ s ++ b).size := by
  apply ByteArray.ext
  apply Array.ext'
  rw [extract_data]
  simp only [ByteArray.data_append, Array.toList_append, ByteArray.size_append, List.append_assoc]
  rw [List.drop_append_of_le_length (by rw [size_toList]; exact Nat.le_refl _), List.drop_of_length_le (by rw [size_toList]; exact Nat.le_refl _), List.nil_append, List.take_of_length_le]
  rw [List.length_append, size_toList, size_toList]; omega
theorem bits_front (s b : ByteArray) : Alike (bF8 s) (bF8 (s ++ b)) (8 * s.size) := by
  intro i hi
  unfold bF8 sbit
  rw [ByteArray.data_append, Array.toList_append, List.getD_eq_getElem?_getD, List.getD_eq_getElem?_getD, List.getElem?_append_left (by rw [size_toList]; omega)]
end Go.Proofs.YtbknflckdbfogaaGreat
namespace Go.Proofs.YtbknflckdbfogaaGreat
open Go.RowKit
set_option linter.unusedVariables false

theorem tkF_cut {f g : Nat → Bool} {L M p n x : Nat} (h : tkF f L p n = .ok x) (hM : M < p + n) : tkF g M p n = .error 6 := by
  unfold tkF
  rw [if_pos hM]
theorem nxG_cut {ns : List Nat} {f g : Nat → Bool} {L M p : Nat} (ha : Alike f g M) : ∀ (k j t q : Nat), nxG ns f L p k j = .ok (t, q) → M < q → nxG ns g M p k j = .error 6
  | 0, j, t, q, h, hM => by rw [nxG] at h; cases h
  | k + 1, j, t, q, h, hM => by
    rw [nxG] at h ⊢
    by_cases hj : M ≤ p + j
    · rw [if_pos hj]
    · have e : pfB (fun i => g (p + i)) (j + 1) = pfB (fun i => f (p + i)) (j + 1) := pfB_loc (fun i hi => (ha (p + i) (by omega)).symm)
      rw [e, if_neg hj]
      split at h
      · cases h
      · split at h
        · simp only [Except.ok.injEq, Prod.mk.injEq] at h; omega
        · split at h
          · rename_i hany
            rw [if_pos hany]
            exact nxG_cut ha k (j + 1) t q h hM
          · cases h
theorem nxF_cut {ns : List Nat} {f g : Nat → Bool} {L M p t q : Nat} (ha : Alike f g M) (h : nxF ns f L p = .ok (t, q)) (hM : M < q) : nxF ns g M p = .error 6 := nxG_cut ha 16 0 t q h hM
theorem szE_cut {f g : Nat → Bool} {L M p i x q : Nat} {far : Bool} (h : szE f L p i far = .ok (x, q)) (hM : M < q) : szE g M p i far = .error 6 := by
  unfold szE at h ⊢
  split at h
  · cases h
  · rename_i h0
    rw [if_neg h0]
    cases ht : tkF f L p (szF i far).2 with
    | error e => rw [ht] at h; cases h
    | ok m =>
      rw [ht] at h
      simp only [Except.ok.injEq, Prod.mk.injEq] at h
      rw [tkF_cut ht (by omega)]
theorem tkE_cut {ds : List Nat} {f g : Nat → Bool} {L M most p out sym q o : Nat} {t : Tok} (ha : Alike f g M) (hp : p ≤ M) (h : tkE ds f L most p out sym = .ok (t, q, o)) (hM : M < q) : tkE ds g M most p out sym = .error 6 := by
  unfold tkE at h ⊢
  split at h
  · split at h
    · cases h
    · simp only [Except.ok.injEq, Prod.mk.injEq] at h; omega
  · rename_i hs
    rw [if_neg hs]
    cases h1 : szE f L p (sym - 257) false with
    | error e => rw [h1] at h; cases h
    | ok r1 =>
      obtain ⟨size, p1⟩ := r1
      rw [h1] at h
      simp only at h
      by_cases c1 : M < p1
      · rw [szE_cut h1 c1]
      · rw [szE_loc h1 (ha.less (by omega)) (by omega)]
        simp only
        cases h2 : nxF ds f L p1 with
        | error e => rw [h2] at h; cases h
        | ok r2 =>
          obtain ⟨d, p2⟩ := r2
          rw [h2] at h
          simp only at h
          by_cases c2 : M < p2
          · rw [nxF_cut ha h2 c2]
          · rw [nxF_loc h2 (ha.less (by omega)) (by omega)]
            simp only
            cases h3 : szE f L p2 d true with
            | error e => rw [h3] at h; cases h
            | ok r3 =>
              obtain ⟨dist, p3⟩ := r3
              rw [h3] at h
              simp only at h
              have hq : p3 = q := by
                split at h
                · cases h
                · split at h
                  · cases h
                  · simp only [Except.ok.injEq, Prod.mk.injEq] at h; exact h.2.1
              subst hq
              rw [szE_cut h3 hM]
theorem tksF_cut {ls ds : List Nat} {f g : Nat → Bool} {L M most : Nat} (ha : Alike f g M) : ∀ (k k' p out : Nat) (acc ts : List Tok) (q o : Nat), p ≤ M → tksF ls ds f L most k p out acc = .ok (ts, q, o) → M < q → tksF ls ds g M most k' p out acc = .error 6
  | 0, k', p, out, acc, ts, q, o, hp, h, hM => by rw [tksF] at h; cases h
  | k + 1, 0, p, out, acc, ts, q, o, hp, h, hM => by rw [tksF]
  | k + 1, m + 1, p, out, acc, ts, q, o, hp, h, hM => by
    rw [tksF] at h ⊢
    cases hx : nxF ls f L p with
    | error e => rw [hx] at h; cases h
    | ok r1 =>
      obtain ⟨sym, p1⟩ := r1
      rw [hx] at h
      simp only at h
      by_cases c1 : M < p1
      · rw [nxF_cut ha hx c1]
      · rw [nxF_loc hx (ha.less (by omega)) (by omega)]
        simp only
        split at h
        · simp only [Except.ok.injEq, Prod.mk.injEq] at h; omega
        · rename_i hs
          rw [if_neg hs]
          cases ht : tkE ds f L most p1 out sym with
          | error e => rw [ht] at h; cases h
          | ok r2 =>
            obtain ⟨t, p2, o2⟩ := r2
            rw [ht] at h
            simp only at h
            by_cases c2 : M < p2
            · rw [tkE_cut ha (by omega) ht c2]
            · rw [tkE_loc (nxF_place hx).2 ht (ha.less (by omega)) (by omega)]
              simp only
              exact tksF_cut ha k m p2 o2 _ ts q o (by omega) h hM
theorem stF_cut {f g : Nat → Bool} {L M most p out : Nat} {b : List Nat} {q o : Nat} (ha : Alike f g M) (h : stF f L most p out = .ok (b, q, o)) (hM : M < q) : stF g M most p out = .error 6 := by
  obtain ⟨n, m, h1, h2, h3, h4, rfl, rfl, rfl, h5⟩ := stF_place h
  unfold stF
  by_cases c1 : M < (p + 7) / 8 * 8 + 16
  · rw [tkF_cut h1 c1]
  · rw [tkF_loc h1 (ha.less (by omega)) (by omega)]
    simp only
    by_cases c2 : M < (p + 7) / 8 * 8 + 16 + 16
    · rw [tkF_cut h2 c2]
    · rw [tkF_loc h2 (ha.less (by omega)) (by omega)]
      simp only
      rw [if_neg h3, if_pos (by omega)]
theorem rowF_cut {ns : List Nat} {f g : Nat → Bool} {L M n : Nat} (ha : Alike f g M) : ∀ (k k' p : Nat) (row row' : List Nat) (q : Nat), p ≤ M → rowF ns f L n k p row = .ok (row', q) → M < q → rowF ns g M n k' p row = .error 6
  | 0, k', p, row, row', q, hp, h, hM => by rw [rowF] at h; cases h
  | k + 1, 0, p, row, row', q, hp, h, hM => by rw [rowF]
  | k + 1, m + 1, p, row, row', q, hp, h, hM => by
    rw [rowF] at h ⊢
    split at h
    · split at h
      · cases h
      · simp only [Except.ok.injEq, Prod.mk.injEq] at h; omega
    · rename_i hn
      rw [if_neg hn]
      cases hx : nxF ns f L p with
      | error e => rw [hx] at h; cases h
      | ok r1 =>
        obtain ⟨sym, p1⟩ := r1
        rw [hx] at h
        simp only at h
        by_cases c1 : M < p1
        · rw [nxF_cut ha hx c1]
        · rw [nxF_loc hx (ha.less (by omega)) (by omega)]
          simp only
          split at h
          · cases h
          · rename_i hs
            rw [if_neg hs]
            cases ht : tkF f L p1 (tmF sym).2 with
            | error e => rw [ht] at h; cases h
            | ok x =>
              rw [ht] at h
              simp only at h
              by_cases c2 : M < p1 + (tmF sym).2
              · rw [tkF_cut ht c2]
              · rw [tkF_loc ht (ha.less (by omega)) (by omega)]
                simp only
                exact rowF_cut ha k m _ _ _ _ (by omega) h hM
theorem dynF_cut {f g : Nat → Bool} {L M p : Nat} {ls ds : List Nat} {q : Nat} (ha : Alike f g M) (h : dynF f L p = .ok (ls, ds, q)) (hM : M < q) : dynF g M p = .error 6 := by
  by_cases hL : p + 14 ≤ L
  · by_cases hS : M < p + 14
    · exact dyn_short hS
    · rw [dyn_long hL] at h
      have e1 : takeN (fun i => g (p + i)) 5 = takeN (fun i => f (p + i)) 5 := takeN_congr 5 (fun i hi => (ha _ (by omega)).symm)
      have e2 : takeN (fun i => g (p + 5 + i)) 5 = takeN (fun i => f (p + 5 + i)) 5 := takeN_congr 5 (fun i hi => (ha _ (by omega)).symm)
      have e3 : takeN (fun i => g (p + 10 + i)) 4 = takeN (fun i => f (p + 10 + i)) 4 := takeN_congr 4 (fun i hi => (ha _ (by omega)).symm)
      rw [dyn_long (by omega), e1, e2, e3]
      generalize takeN (fun i => f (p + i)) 5 = a at *
      generalize takeN (fun i => f (p + 5 + i)) 5 = b at *
      generalize takeN (fun i => f (p + 10 + i)) 4 = c at *
      unfold dynT at h ⊢
      split at h
      · cases h
      · rename_i h1
        rw [if_neg h1]
        by_cases c1 : M < p + 14 + 3 * (c + 4)
        · rw [if_pos c1]
        · rw [if_neg c1, ← fstL_loc (f := f) (ha.less (by omega))]
          split at h
          · cases h
          · split at h
            · cases h
            · rename_i h3
              rw [if_neg h3]
              cases hro : rowF (fstL f (p + 14) (c + 4)) f L (a + b + 258) (L + 1) (p + 14 + 3 * (c + 4)) [] with
              | error e => rw [hro] at h; cases h
              | ok r =>
                obtain ⟨row, p1⟩ := r
                rw [hro] at h
                simp only at h
                have hq : p1 = q := by
                  split at h
                  · cases h
                  · split at h
                    · cases h
                    · simp only [Except.ok.injEq, Prod.mk.injEq] at h; exact h.2.2
                subst hq
                rw [rowF_cut ha _ (M + 1) _ _ _ _ (by omega) hro hM]
  · rw [dyn_short (by omega)] at h; cases h
theorem bdF_cut {f g : Nat → Bool} {L M most p out k : Nat} {b : Blk} {q o : Nat} (ha : Alike f g M) (hp : p ≤ M) (h : bdF f L most p out k = .ok (b, q, o)) (hM : M < q) : bdF g M most p out k = .error 6 := by
  unfold bdF at h ⊢
  split at h
  · rename_i hk
    rw [if_pos hk]
    cases hs : stF f L most p out with
    | error e => rw [hs] at h; cases h
    | ok r =>
      obtain ⟨x, y, z⟩ := r
      rw [hs] at h
      simp only [Except.ok.injEq, Prod.mk.injEq] at h
      obtain ⟨rfl, rfl, rfl⟩ := h
      rw [stF_cut ha hs hM]
  · rename_i hk0
    rw [if_neg hk0]
    split at h
    · rename_i hk
      rw [if_pos hk]
      cases hs : tksF fixL fixD f L most (L + 1) p out [] with
      | error e => rw [hs] at h; cases h
      | ok r =>
        obtain ⟨x, y, z⟩ := r
        rw [hs] at h
        simp only [Except.ok.injEq, Prod.mk.injEq] at h
        obtain ⟨rfl, rfl, rfl⟩ := h
        rw [tksF_cut ha _ (M + 1) _ _ _ _ _ _ hp hs hM]
    · rename_i hk1
      rw [if_neg hk1]
      split at h
      · rename_i hk
        rw [if_pos hk]
        cases hd : dynF f L p with
        | error e => rw [hd] at h; cases h
        | ok r =>
          obtain ⟨ls, ds, p1⟩ := r
          rw [hd] at h
          simp only at h
          cases hs : tksF ls ds f L most (L + 1) p1 out [] with
          | error e => rw [hs] at h; cases h
          | ok r =>
            obtain ⟨x, y, z⟩ := r
            rw [hs] at h
            simp only [Except.ok.injEq, Prod.mk.injEq] at h
            obtain ⟨rfl, rfl, rfl⟩ := h
            by_cases c1 : M < p1
            · rw [dynF_cut ha hd c1]
            · rw [(dynF_loc (M := M) hd (ha.less (by omega)) (by omega)).1]
              simp only
              rw [tksF_cut ha _ (M + 1) _ _ _ _ _ _ (by omega) hs hM]
      · cases h
theorem blkF_cut {f g : Nat → Bool} {L M most p out : Nat} {b : Blk} {last q o : Nat} (ha : Alike f g M) (h : blkF f L most p out = .ok (b, last, q, o)) (hM : M < q) : blkF g M most p out = .error 6 := by
  rw [blk_bd] at h ⊢
  cases h1 : tkF f L p 1 with
  | error e => rw [h1] at h; cases h
  | ok la =>
    rw [h1] at h
    simp only at h
    by_cases c1 : M < p + 1
    · rw [tkF_cut h1 c1]
    · rw [tkF_loc h1 (ha.less (by omega)) (by omega)]
      simp only
      cases h2 : tkF f L (p + 1) 2 with
      | error e => rw [h2] at h; cases h
      | ok k =>
        rw [h2] at h
        simp only at h
        by_cases c2 : M < p + 1 + 2
        · rw [tkF_cut h2 c2]
        · rw [tkF_loc h2 (ha.less (by omega)) (by omega)]
          simp only
          cases h3 : bdF f L most (p + 3) out k with
          | error e => rw [h3] at h; cases h
          | ok r =>
            obtain ⟨x, y, z⟩ := r
            rw [h3] at h
            simp only [Except.ok.injEq, Prod.mk.injEq] at h
            obtain ⟨rfl, rfl, rfl, rfl⟩ := h
            rw [bdF_cut ha (by omega) h3 hM]
theorem blksF_cut {f g : Nat → Bool} {L M most : Nat} (ha : Alike f g M) : ∀ (k k' p out : Nat) (acc bs : List Blk) (q : Nat), blksF f L most k p out acc = .ok (bs, q) → M < q → blksF g M most k' p out acc = .error 6
  | 0, k', p, out, acc, bs, q, h, hM => by rw [blksF] at h; cases h
  | k + 1, 0, p, out, acc, bs, q, h, hM => by rw [blksF]
  | k + 1, m + 1, p, out, acc, bs, q, h, hM => by
    rw [blksF] at h ⊢
    cases hb : blkF f L most p out with
    | error e => rw [hb] at h; cases h
    | ok r =>
      obtain ⟨b, la, p1, o1⟩ := r
      rw [hb] at h
      simp only at h
      by_cases c1 : M < p1
      · rw [blkF_cut ha hb c1]
      · rw [(blkF_loc (M := M) hb (ha.less (by omega)) (by omega)).1]
        simp only
        split at h
        · simp only [Except.ok.injEq, Prod.mk.injEq] at h; omega
        · rename_i hl
          rw [if_neg hl]
          exact blksF_cut ha k m p1 o1 _ bs q h hM
end Go.Proofs.YtbknflckdbfogaaGreat
namespace Go.Proofs.YtbknflckdbfogaaGreat
open Go.RowKit
set_option linter.unusedVariables false

theorem szF_near : ∀ i : Fin 29, 3 ≤ (szF i.val false).1 ∧ (szF i.val false).1 + 2 ^ (szF i.val false).2 ≤ 259 := by decide +kernel
theorem szF_afar : ∀ i : Fin 30, 1 ≤ (szF i.val true).1 ∧ (szF i.val true).1 + 2 ^ (szF i.val true).2 ≤ 32769 := by decide +kernel
theorem szE_near {f : Nat → Bool} {L p i x q : Nat} (h : szE f L p i false = .ok (x, q)) : 3 ≤ x ∧ x ≤ 258 := by
  obtain ⟨h0, m, hm, rfl, _⟩ := szE_ok h
  by_cases hi : i < 29
  · have k := szF_near ⟨i, hi⟩
    simp only at k
    have hm2 := (tkF_ok hm).2
    have := takeN_lt (fun j => f (p + j)) (szF i false).2
    omega
  · exact absurd (by unfold szF; rw [if_neg (by decide), if_pos (by omega)]) h0
theorem szE_afar {f : Nat → Bool} {L p i x q : Nat} (h : szE f L p i true = .ok (x, q)) : 1 ≤ x ∧ x ≤ 32768 := by
  obtain ⟨h0, m, hm, rfl, _⟩ := szE_ok h
  by_cases hi : i < 30
  · have k := szF_afar ⟨i, hi⟩
    simp only at k
    have hm2 := (tkF_ok hm).2
    have := takeN_lt (fun j => f (p + j)) (szF i true).2
    omega
  · exact absurd (by unfold szF; rw [if_pos rfl, if_neg hi]) h0
theorem tkE_tok {ds : List Nat} {f : Nat → Bool} {L most p out sym q o : Nat} {t : Tok} (h : tkE ds f L most p out sym = .ok (t, q, o)) : isTok t = true ∧ t.d ≤ (out : Int) ∧ (o : Int) = out + wid t ∧ o ≤ most := by
  unfold tkE at h
  split at h
  · split at h
    · cases h
    · simp only [Except.ok.injEq, Prod.mk.injEq] at h
      obtain ⟨rfl, rfl, rfl⟩ := h
      refine ⟨rfl, by show (0 : Int) ≤ _; omega, ?_, by omega⟩
      unfold wid
      simp
  · cases h1 : szE f L p (sym - 257) false with
    | error e => rw [h1] at h; cases h
    | ok r1 =>
      obtain ⟨size, p1⟩ := r1
      rw [h1] at h
      simp only at h
      cases h2 : nxF ds f L p1 with
      | error e => rw [h2] at h; cases h
      | ok r2 =>
        obtain ⟨d, p2⟩ := r2
        rw [h2] at h
        simp only at h
        cases h3 : szE f L p2 d true with
        | error e => rw [h3] at h; cases h
        | ok r3 =>
          obtain ⟨dist, p3⟩ := r3
          rw [h3] at h
          simp only at h
          have a1 := szE_near h1
          have a3 := szE_afar h3
          split at h
          · cases h
          · split at h
            · cases h
            · simp only [Except.ok.injEq, Prod.mk.injEq] at h
              obtain ⟨rfl, rfl, rfl⟩ := h
              refine ⟨isTok_mk rfl (by show (3 : Int) ≤ (size : Int); omega) (by show (size : Int) ≤ 258; omega) (by show (1 : Int) ≤ (dist : Int); omega) (by show (dist : Int) ≤ 32768; omega), by show (dist : Int) ≤ _; omega, ?_, by omega⟩
              unfold wid
              simp only
              rw [if_pos (by omega)]; omega
theorem tkE_most {ds : List Nat} {f : Nat → Bool} {L most p out sym q o : Nat} {t : Tok} (h : tkE ds f L most p out sym = .ok (t, q, o)) (m : Nat) : (o ≤ m → tkE ds f L m p out sym = .ok (t, q, o)) ∧ (m < o → tkE ds f L m p out sym = .error 2) := by
  unfold tkE at h ⊢
  split at h
  · rename_i hs
    rw [if_pos hs]
    split at h
    · cases h
    · simp only [Except.ok.injEq, Prod.mk.injEq] at h
      obtain ⟨rfl, rfl, rfl⟩ := h
      exact ⟨fun hm => by rw [if_neg (by omega)], fun hm => by rw [if_pos hm]⟩
  · rename_i hs
    rw [if_neg hs]
    cases h1 : szE f L p (sym - 257) false with
    | error e => rw [h1] at h; cases h
    | ok r1 =>
      obtain ⟨size, p1⟩ := r1
      rw [h1] at h
      simp only at h ⊢
      cases h2 : nxF ds f L p1 with
      | error e => rw [h2] at h; cases h
      | ok r2 =>
        obtain ⟨d, p2⟩ := r2
        rw [h2] at h
        simp only at h ⊢
        cases h3 : szE f L p2 d true with
        | error e => rw [h3] at h; cases h
        | ok r3 =>
          obtain ⟨dist, p3⟩ := r3
          rw [h3] at h
          simp only at h ⊢
          split at h
          · cases h
          · rename_i hd
            rw [if_neg hd]
            split at h
            · cases h
            · simp only [Except.ok.injEq, Prod.mk.injEq] at h
              obtain ⟨rfl, rfl, rfl⟩ := h
              exact ⟨fun hm => by rw [if_neg (by omega)], fun hm => by rw [if_pos hm]⟩
theorem expF_app (M : Int) : ∀ (a b : List Tok) (O O1 : List Nat), expF M a O = (O1, 0) → expF M (a ++ b) O = expF M b O1
  | [], b, O, O1, h => by simp only [expF, Prod.mk.injEq, and_true] at h; subst h; rfl
  | t :: a, b, O, O1, h => by
    rw [List.cons_append, expF]
    rw [expF] at h
    by_cases e : errT O M t = 0
    · rw [if_pos e] at h ⊢
      exact expF_app M a b _ O1 h
    · rw [if_neg e] at h
      simp only [Prod.mk.injEq] at h
      exact absurd h.2 e
/-- What tokens say: so much comes out. -/
def Says (l : List Tok) (out o : Nat) : Prop := ∀ O : List Nat, O.length = out → ∃ O', expF 9223372036854775807 l O = (O', 0) ∧ O'.length = o
theorem Says.nil (out : Nat) : Says [] out out := fun O h => ⟨O, rfl, h⟩
theorem Says.app {a b : List Tok} {x y z : Nat} (h : Says a x y) (k : Says b y z) : Says (a ++ b) x z := by
  intro O hO
  obtain ⟨O1, e1, l1⟩ := h O hO
  obtain ⟨O2, e2, l2⟩ := k O1 l1
  exact ⟨O2, by rw [expF_app _ _ _ _ _ e1, e2], l2⟩
theorem says_one {t : Tok} {out o : Nat} (h1 : isTok t = true) (h2 : t.d ≤ (out : Int)) (h3 : (o : Int) = out + wid t) (h4 : o ≤ 1000000) : Says [t] out o := by
  intro O hO
  subst hO
  have e := errT_mk (most := 9223372036854775807) h1 h2 (by omega)
  refine ⟨sayT O t, by rw [expF, if_pos e]; rfl, ?_⟩
  have := sayT_len (out := O) h1
  omega
theorem tksF_says {ls ds : List Nat} {f : Nat → Bool} {L most : Nat} (hm : most ≤ 1000000) : ∀ (k p out : Nat) (acc ts : List Tok) (q o : Nat), out ≤ most → tksF ls ds f L most k p out acc = .ok (ts, q, o) → (∃ new, ts = acc ++ new ∧ Says new out o) ∧ out ≤ o ∧ o ≤ most ∧ ∀ m, out ≤ m → (o ≤ m → tksF ls ds f L m k p out acc = .ok (ts, q, o)) ∧ (m < o → tksF ls ds f L m k p out acc = .error 2)
  | 0, p, out, acc, ts, q, o, ho, h => by rw [tksF] at h; cases h
  | k + 1, p, out, acc, ts, q, o, ho, h => by
    rw [tksF] at h
    cases hx : nxF ls f L p with
    | error e => rw [hx] at h; cases h
    | ok r1 =>
      obtain ⟨sym, p1⟩ := r1
      rw [hx] at h
      simp only at h
      by_cases hs : sym = 256
      · rw [if_pos hs] at h
        simp only [Except.ok.injEq, Prod.mk.injEq] at h
        obtain ⟨rfl, rfl, rfl⟩ := h
        refine ⟨⟨[], by rw [List.append_nil], Says.nil _⟩, Nat.le_refl _, ho, fun m hm' => ⟨fun _ => ?_, fun hlt => absurd hlt (by omega)⟩⟩
        rw [tksF, hx]
        simp only
        rw [if_pos hs]
      · rw [if_neg hs] at h
        cases ht : tkE ds f L most p1 out sym with
        | error e => rw [ht] at h; cases h
        | ok r2 =>
          obtain ⟨t, p2, o2⟩ := r2
          rw [ht] at h
          simp only at h
          obtain ⟨a1, a2, a3, a4⟩ := tkE_tok ht
          have hw := wid_pos t
          obtain ⟨⟨new, rfl, hsay⟩, b1, b2, b3⟩ := tksF_says hm k p2 o2 _ ts q o a4 h
          refine ⟨⟨t :: new, by rw [List.append_assoc]; rfl, (says_one a1 a2 a3 (by omega)).app hsay⟩, by omega, b2, fun m hm' => ?_⟩
          have hmm := tkE_most ht m
          refine ⟨fun hle => ?_, fun hlt => ?_⟩
          · rw [tksF, hx]
            simp only
            rw [if_neg hs, hmm.1 (by omega)]
            simp only
            exact (b3 m (by omega)).1 hle
          · rw [tksF, hx]
            simp only
            rw [if_neg hs]
            by_cases hc : m < o2
            · rw [hmm.2 hc]
            · rw [hmm.1 (by omega)]
              simp only
              exact (b3 m (by omega)).2 hlt
end Go.Proofs.YtbknflckdbfogaaGreat
namespace Go.Proofs.YtbknflckdbfogaaGreat
open Go.RowKit
set_option linter.unusedVariables false

theorem says_bytes : ∀ (l : List Nat) (out : Nat), out + l.length ≤ 1000000 → Says (l.map fun c => (⟨c, 0, 0⟩ : Tok)) out (out + l.length)
  | [], out, h => Says.nil _
  | c :: l, out, h => by
    rw [List.length_cons] at h
    have h1 : Says [(⟨c, 0, 0⟩ : Tok)] out (out + 1) := says_one rfl (by show (0 : Int) ≤ _; omega) (by unfold wid; simp) (by omega)
    have h2 := says_bytes l (out + 1) (by omega)
    have := h1.app h2
    rw [show out + 1 + l.length = out + (c :: l).length by rw [List.length_cons]; omega] at this
    exact this
theorem bdF_says {f : Nat → Bool} {L most p out k : Nat} {b : Blk} {q o : Nat} (hm : most ≤ 1000000) (ho : out ≤ most) (h : bdF f L most p out k = .ok (b, q, o)) : Says (bkP b) out o ∧ out ≤ o ∧ o ≤ most ∧ ∀ m, out ≤ m → (o ≤ m → bdF f L m p out k = .ok (b, q, o)) ∧ (m < o → bdF f L m p out k = .error 2) := by
  unfold bdF at h ⊢
  unfold bkP
  split at h
  · rename_i hk
    simp only [if_pos hk]
    cases hs : stF f L most p out with
    | error e => rw [hs] at h; cases h
    | ok r =>
      obtain ⟨x, y, z⟩ := r
      rw [hs] at h
      simp only [Except.ok.injEq, Prod.mk.injEq] at h
      obtain ⟨rfl, rfl, rfl⟩ := h
      have hso := stF_out hs
      obtain ⟨n, n2, h1, h2, h3, h4, rfl, rfl, rfl, h5⟩ := stF_place hs
      have hbl : (bytF f ((p + 7) / 8 * 8 + 32) n).length = n := by unfold bytF; simp
      refine ⟨?_, by omega, by omega, fun m hm' => ⟨fun hle => ?_, fun hlt => ?_⟩⟩
      · rw [List.append_nil]
        have := says_bytes (bytF f ((p + 7) / 8 * 8 + 32) n) out (by omega)
        rw [hbl] at this
        exact this
      · unfold stF
        rw [h1]
        simp only
        rw [h2]
        simp only
        rw [if_neg h3, if_neg (by omega), if_neg (by omega)]
      · unfold stF
        rw [h1]
        simp only
        rw [h2]
        simp only
        rw [if_neg h3, if_neg (by omega), if_pos hlt]
  · rename_i hk0
    simp only [if_neg hk0]
    split at h
    · rename_i hk
      simp only [if_pos hk]
      cases hs : tksF fixL fixD f L most (L + 1) p out [] with
      | error e => rw [hs] at h; cases h
      | ok r =>
        obtain ⟨x, y, z⟩ := r
        rw [hs] at h
        simp only [Except.ok.injEq, Prod.mk.injEq] at h
        obtain ⟨rfl, rfl, rfl⟩ := h
        obtain ⟨⟨new, hn, hsay⟩, b1, b2, b3⟩ := tksF_says hm _ _ _ _ _ _ _ ho hs
        rw [List.nil_append] at hn
        subst hn
        refine ⟨hsay, b1, b2, fun m hm' => ⟨fun hle => ?_, fun hlt => ?_⟩⟩
        · rw [(b3 m hm').1 hle]
        · rw [(b3 m hm').2 hlt]
    · rename_i hk1
      simp only [if_neg hk1]
      split at h
      · rename_i hk
        simp only [if_pos hk]
        cases hd : dynF f L p with
        | error e => rw [hd] at h; cases h
        | ok r =>
          obtain ⟨ls, ds, p1⟩ := r
          rw [hd] at h
          simp only at h ⊢
          cases hs : tksF ls ds f L most (L + 1) p1 out [] with
          | error e => rw [hs] at h; cases h
          | ok r =>
            obtain ⟨x, y, z⟩ := r
            rw [hs] at h
            simp only [Except.ok.injEq, Prod.mk.injEq] at h
            obtain ⟨rfl, rfl, rfl⟩ := h
            obtain ⟨⟨new, hn, hsay⟩, b1, b2, b3⟩ := tksF_says hm _ _ _ _ _ _ _ ho hs
            rw [List.nil_append] at hn
            subst hn
            refine ⟨hsay, b1, b2, fun m hm' => ⟨fun hle => ?_, fun hlt => ?_⟩⟩
            · rw [(b3 m hm').1 hle]
            · rw [(b3 m hm').2 hlt]
      · cases h
theorem blkF_says {f : Nat → Bool} {L most p out : Nat} {b : Blk} {last q o : Nat} (hm : most ≤ 1000000) (ho : out ≤ most) (h : blkF f L most p out = .ok (b, last, q, o)) : Says (bkP b) out o ∧ out ≤ o ∧ o ≤ most ∧ ∀ m, out ≤ m → (o ≤ m → blkF f L m p out = .ok (b, last, q, o)) ∧ (m < o → blkF f L m p out = .error 2) := by
  rw [blk_bd] at h
  cases h1 : tkF f L p 1 with
  | error e => rw [h1] at h; cases h
  | ok la =>
    rw [h1] at h
    simp only at h
    cases h2 : tkF f L (p + 1) 2 with
    | error e => rw [h2] at h; cases h
    | ok k =>
      rw [h2] at h
      simp only at h
      cases h3 : bdF f L most (p + 3) out k with
      | error e => rw [h3] at h; cases h
      | ok r =>
        obtain ⟨x, y, z⟩ := r
        rw [h3] at h
        simp only [Except.ok.injEq, Prod.mk.injEq] at h
        obtain ⟨rfl, rfl, rfl, rfl⟩ := h
        obtain ⟨b0, b1, b2, b3⟩ := bdF_says hm ho h3
        refine ⟨b0, b1, b2, fun m hm' => ⟨fun hle => ?_, fun hlt => ?_⟩⟩
        · rw [blk_bd, h1]
          simp only
          rw [h2]
          simp only
          rw [(b3 m hm').1 hle]
        · rw [blk_bd, h1]
          simp only
          rw [h2]
          simp only
          rw [(b3 m hm').2 hlt]
theorem blksF_says {f : Nat → Bool} {L most : Nat} (hm : most ≤ 1000000) : ∀ (k p out : Nat) (acc bs : List Blk) (q : Nat), out ≤ most → blksF f L most k p out acc = .ok (bs, q) → ∃ o new, bs = acc ++ new ∧ Says (jkP new) out o ∧ out ≤ o ∧ o ≤ most ∧ ∀ m, out ≤ m → (o ≤ m → blksF f L m k p out acc = .ok (bs, q)) ∧ (m < o → blksF f L m k p out acc = .error 2)
  | 0, p, out, acc, bs, q, ho, h => by rw [blksF] at h; cases h
  | k + 1, p, out, acc, bs, q, ho, h => by
    rw [blksF] at h
    cases hb : blkF f L most p out with
    | error e => rw [hb] at h; cases h
    | ok r =>
      obtain ⟨b, la, p1, o1⟩ := r
      rw [hb] at h
      simp only at h
      obtain ⟨a0, a1, a2, a3⟩ := blkF_says hm ho hb
      by_cases hl : la = 1
      · rw [if_pos hl] at h
        simp only [Except.ok.injEq, Prod.mk.injEq] at h
        obtain ⟨rfl, rfl⟩ := h
        refine ⟨o1, [b], rfl, by simpa [jkP] using a0, a1, a2, fun m hm' => ⟨fun hle => ?_, fun hlt => ?_⟩⟩
        · rw [blksF, (a3 m hm').1 hle]
          simp only
          rw [if_pos hl]
        · rw [blksF, (a3 m hm').2 hlt]
      · rw [if_neg hl] at h
        obtain ⟨o, new, rfl, c0, c1, c2, c3⟩ := blksF_says hm k p1 o1 _ bs q a2 h
        refine ⟨o, b :: new, by rw [List.append_assoc]; rfl, ?_, by omega, c2, fun m hm' => ⟨fun hle => ?_, fun hlt => ?_⟩⟩
        · have := a0.app c0
          unfold jkP at this ⊢
          rw [List.flatMap_cons]
          exact this
        · rw [blksF, (a3 m hm').1 (by omega)]
          simp only
          rw [if_neg hl]
          exact (c3 m (by omega)).1 hle
        · rw [blksF]
          by_cases hc : m < o1
          · rw [(a3 m hm').2 hc]
          · rw [(a3 m hm').1 (by omega)]
            simp only
            rw [if_neg hl]
            exact (c3 m (by omega)).2 hlt
end Go.Proofs.YtbknflckdbfogaaGreat
