/- How much comes out of a stream: the plain mathematics. Contracts of Blocks with wrong arguments, and of Inflate. -/
import Derived.Test.YthkppipdflmekaaQInfK
namespace Go.Proofs.Ythkppipdflmekaa
open Go.RowKit
set_option linter.unusedVariables false

theorem tksF_out {ls ds : List Nat} (hl : all15 ls) (hd : all15 ds) {f : Nat → Bool} {L most : Nat} : ∀ (k p out : Nat) (acc ts : List Tok) (q o : Nat), p ≤ L → out ≤ most → tksF ls ds f L most k p out acc = .ok (ts, q, o) → ts.length + out ≤ acc.length + o ∧ o ≤ most ∧ q ≤ L
  | 0, p, out, acc, ts, q, o, hp, ho, h => by rw [tksF] at h; cases h
  | k + 1, p, out, acc, ts, q, o, hp, ho, h => by
    rw [tksF] at h
    cases hx : nxF ls f L p with
    | error e => rw [hx] at h; cases h
    | ok r1 =>
      obtain ⟨sym, p1⟩ := r1
      rw [hx] at h
      simp only at h
      obtain ⟨_, _, hp1⟩ := nxF_ok hl hp hx
      by_cases h6 : sym = 256
      · rw [if_pos h6] at h
        simp only [Except.ok.injEq, Prod.mk.injEq] at h
        obtain ⟨rfl, rfl, rfl⟩ := h
        exact ⟨Nat.le_refl _, ho, hp1⟩
      · rw [if_neg h6] at h
        cases ht : tkE ds f L most p1 out sym with
        | error e => rw [ht] at h; cases h
        | ok r2 =>
          obtain ⟨t, p2, o2⟩ := r2
          rw [ht] at h
          simp only at h
          obtain ⟨_, hp2, ho2, _, hw, _⟩ := tkE_ok hd hp1 ht
          have hw1 := wid_pos t
          have := tksF_out hl hd k p2 o2 _ ts q o hp2 ho2 h
          rw [List.length_append, List.length_singleton] at this
          omega
theorem stF_out {f : Nat → Bool} {L most p out : Nat} {b : List Nat} {q o : Nat} (h : stF f L most p out = .ok (b, q, o)) : b.length + out = o ∧ o ≤ most ∧ q ≤ L := by
  unfold stF at h
  cases h1 : tkF f L ((p + 7) / 8 * 8) 16 with
  | error e => rw [h1] at h; cases h
  | ok n =>
    rw [h1] at h
    simp only at h
    cases h2 : tkF f L ((p + 7) / 8 * 8 + 16) 16 with
    | error e => rw [h2] at h; cases h
    | ok m =>
      rw [h2] at h
      simp only at h
      split at h
      · cases h
      · split at h
        · cases h
        · split at h
          · cases h
          · simp only [Except.ok.injEq, Prod.mk.injEq] at h
            obtain ⟨rfl, rfl, rfl⟩ := h
            unfold bytF
            rw [List.length_map, List.length_range]
            omega
theorem rowF_le {ns : List Nat} (h15 : all15 ns) {f : Nat → Bool} {L n : Nat} : ∀ (k p : Nat) (row row' : List Nat) (q : Nat), p ≤ L → rowF ns f L n k p row = .ok (row', q) → q ≤ L
  | 0, p, row, row', q, hp, h => by rw [rowF] at h; cases h
  | k + 1, p, row, row', q, hp, h => by
    rw [rowF] at h
    split at h
    · split at h
      · cases h
      · simp only [Except.ok.injEq, Prod.mk.injEq] at h; omega
    · cases hx : nxF ns f L p with
      | error e => rw [hx] at h; cases h
      | ok r1 =>
        obtain ⟨sym, p1⟩ := r1
        rw [hx] at h
        simp only at h
        obtain ⟨_, _, hp1⟩ := nxF_ok h15 hp hx
        split at h
        · cases h
        · cases ht : tkF f L p1 (tmF sym).2 with
          | error e => rw [ht] at h; cases h
          | ok m =>
            rw [ht] at h
            simp only at h
            exact rowF_le h15 k _ _ _ _ (tkF_ok ht).1 h
theorem dynF_ok {f : Nat → Bool} {L p : Nat} {ls ds : List Nat} {q : Nat} (h : dynF f L p = .ok (ls, ds, q)) : Lens ls ∧ Lens ds ∧ q ≤ L := by
  by_cases hL : p + 14 ≤ L
  · rw [dyn_long hL] at h
    unfold dynT at h
    split at h
    · cases h
    · split at h
      · cases h
      · split at h
        · cases h
        · rename_i hft
          have hft' : fitE (fstL f (p + 14) (takeN (fun i => f (p + 10 + i)) 4 + 4)) = true := by
            cases hh : fitE (fstL f (p + 14) (takeN (fun i => f (p + 10 + i)) 4 + 4))
            · exact absurd hh hft
            · rfl
          split at h
          · cases h
          · rename_i row p1 hro
            have hq := rowF_le (fitE_ok hft').2.1 _ _ _ _ _ (by omega) hro
            split at h
            · cases h
            · split at h
              · cases h
              · rename_i hbd
                simp only [Except.ok.injEq, Prod.mk.injEq] at h
                obtain ⟨rfl, rfl, rfl⟩ := h
                refine ⟨(fitE_ok ?_).2, (fitE_ok ?_).2, hq⟩
                · cases hh : fitE (List.take (takeN (fun i => f (p + i)) 5 + 257) row)
                  · exact absurd (.inl hh) hbd
                  · rfl
                · cases hh : fitE (List.drop (takeN (fun i => f (p + i)) 5 + 257) row)
                  · exact absurd (.inr hh) hbd
                  · rfl
  · rw [dyn_short (by omega)] at h; cases h
/-- What a block says, as tokens. -/
def bkP (b : Blk) : List Tok := (b.bytes.map fun c => (⟨c, 0, 0⟩ : Tok)) ++ b.toks
def jkP (l : List Blk) : List Tok := l.flatMap bkP
theorem bdF_out {f : Nat → Bool} {L most p out k : Nat} {b : Blk} {q o : Nat} (hp : p ≤ L) (ho : out ≤ most) (h : bdF f L most p out k = .ok (b, q, o)) : (bkP b).length + out ≤ o ∧ o ≤ most ∧ q ≤ L := by
  unfold bdF at h
  unfold bkP
  rw [List.length_append, List.length_map]
  split at h
  · cases hs : stF f L most p out with
    | error e => rw [hs] at h; cases h
    | ok r =>
      obtain ⟨x, y, z⟩ := r
      rw [hs] at h
      simp only [Except.ok.injEq, Prod.mk.injEq] at h
      obtain ⟨rfl, rfl, rfl⟩ := h
      have := stF_out hs
      simp only [List.length_nil]
      omega
  · split at h
    · cases hs : tksF fixL fixD f L most (L + 1) p out [] with
      | error e => rw [hs] at h; cases h
      | ok r =>
        obtain ⟨x, y, z⟩ := r
        rw [hs] at h
        simp only [Except.ok.injEq, Prod.mk.injEq] at h
        obtain ⟨rfl, rfl, rfl⟩ := h
        have := tksF_out fixL_lens.1 fixD_lens.1 _ _ _ _ _ _ _ hp ho hs
        simp only [List.length_nil] at this ⊢
        omega
    · split at h
      · cases hd : dynF f L p with
        | error e => rw [hd] at h; cases h
        | ok r =>
          obtain ⟨ls, ds, p1⟩ := r
          rw [hd] at h
          simp only at h
          obtain ⟨h1, h2, h3⟩ := dynF_ok hd
          cases hs : tksF ls ds f L most (L + 1) p1 out [] with
          | error e => rw [hs] at h; cases h
          | ok r =>
            obtain ⟨x, y, z⟩ := r
            rw [hs] at h
            simp only [Except.ok.injEq, Prod.mk.injEq] at h
            obtain ⟨rfl, rfl, rfl⟩ := h
            have := tksF_out h1.1 h2.1 _ _ _ _ _ _ _ h3 ho hs
            simp only [List.length_nil] at this ⊢
            omega
      · cases h
theorem blkF_out {f : Nat → Bool} {L most p out : Nat} {b : Blk} {last q o : Nat} (ho : out ≤ most) (h : blkF f L most p out = .ok (b, last, q, o)) : (bkP b).length + out ≤ o ∧ o ≤ most ∧ q ≤ L := by
  rw [blk_bd] at h
  cases h1 : tkF f L p 1 with
  | error e => rw [h1] at h; cases h
  | ok la =>
    rw [h1] at h
    simp only at h
    cases h2 : tkF f L (p + 1) 2 with
    | error e => rw [h2] at h; cases h
    | ok k =>
      rw [h2] at h
      simp only at h
      cases h3 : bdF f L most (p + 3) out k with
      | error e => rw [h3] at h; cases h
      | ok r =>
        obtain ⟨x, y, z⟩ := r
        rw [h3] at h
        simp only [Except.ok.injEq, Prod.mk.injEq] at h
        obtain ⟨rfl, rfl, rfl, rfl⟩ := h
        exact bdF_out (tkF_ok h2).1 ho h3
theorem blksF_out {f : Nat → Bool} {L most : Nat} : ∀ (k p out : Nat) (acc bs : List Blk) (q : Nat), out ≤ most → (jkP acc).length ≤ out → blksF f L most k p out acc = .ok (bs, q) → (jkP bs).length ≤ most ∧ q ≤ L
  | 0, p, out, acc, bs, q, ho, ha, h => by rw [blksF] at h; cases h
  | k + 1, p, out, acc, bs, q, ho, ha, h => by
    rw [blksF] at h
    cases hb : blkF f L most p out with
    | error e => rw [hb] at h; cases h
    | ok r =>
      obtain ⟨b, la, p1, o1⟩ := r
      rw [hb] at h
      simp only at h
      obtain ⟨h1, h2, h3⟩ := blkF_out ho hb
      have hj : (jkP (acc ++ [b])).length = (jkP acc).length + (bkP b).length := by
        unfold jkP; rw [List.flatMap_append, List.length_append]; simp
      split at h
      · simp only [Except.ok.injEq, Prod.mk.injEq] at h
        obtain ⟨rfl, rfl⟩ := h
        omega
      · exact blksF_out k p1 o1 _ bs q h2 (by omega) h
theorem jtk_eq {w : World} {B : Nat} {v : Value} {l : List Item} (h : BRow w B v l) : jtk l = jkP (l.map Prod.fst) := by
  have key : ∀ l : List Item, (∀ x ∈ l, BItem w B x) → jtk l = jkP (l.map Prod.fst) := by
    intro l
    induction l with
    | nil => intro _; rfl
    | cons x l ih =>
      intro hx
      unfold jtk jkP
      rw [List.flatMap_cons, List.map_cons, List.flatMap_cons]
      have h1 := ih (fun y hy => hx y (List.mem_cons_of_mem _ hy))
      unfold jtk jkP at h1
      rw [h1]
      congr 1
      unfold btk bkP tok0
      rw [← (hx x (List.mem_cons_self ..)).1]
      rfl
  exact key l h.2
end Go.Proofs.Ythkppipdflmekaa
namespace Go.Proofs.Ythkppipdflmekaa
open Go.RowKit
set_option linter.unusedVariables false

set_option maxRecDepth 100000 in
set_option maxHeartbeats 2000000 in
theorem blocks_bad (s : ByteArray) (a most : Int) (w : World) (h : a < 0 ∨ (s.size : Int) < a ∨ most < 0 ∨ 65536 < most) :
    Calls Try.prog 5 #[.string s, .int .i64 a, .int .i64 most] w fun e w' => e = .returned (.tuple #[.slice none 0 0, .int .i64 0, .int .i64 1]) ∧ w' = w := by
  by_cases h1 : a < 0
  · go_enter Try.func5, Try.ntmps5
    go_wp2
    exact bodyPost_ret (v := .tuple #[.slice none 0 0, .int .i64 0, .int .i64 1]) (by simp [results, Try.results5, go_sem]) rfl ⟨rfl, rfl⟩
  · by_cases h2 : (s.size : Int) < a
    · go_enter Try.func5, Try.ntmps5
      go_wp2
      exact bodyPost_ret (v := .tuple #[.slice none 0 0, .int .i64 0, .int .i64 1]) (by simp [results, Try.results5, go_sem]) rfl ⟨rfl, rfl⟩
    · by_cases h3 : most < 0
      · go_enter Try.func5, Try.ntmps5
        go_wp2
        exact bodyPost_ret (v := .tuple #[.slice none 0 0, .int .i64 0, .int .i64 1]) (by simp [results, Try.results5, go_sem]) rfl ⟨rfl, rfl⟩
      · have h4 : 65536 < most := by omega
        clear h
        go_enter Try.func5, Try.ntmps5
        go_wp2
        exact bodyPost_ret (v := .tuple #[.slice none 0 0, .int .i64 0, .int .i64 1]) (by simp [results, Try.results5, go_sem]) rfl ⟨rfl, rfl⟩
set_option maxRecDepth 100000 in
set_option maxHeartbeats 2000000 in
theorem inflate_bad (s : ByteArray) (a most : Int) (w : World) (h : a < 0 ∨ (s.size : Int) < a ∨ most < 0 ∨ 65536 < most) :
    Calls Try.prog 7 #[.string s, .int .i64 a, .int .i64 most] w fun e w' => e = .returned (.tuple #[.string ⟨#[]⟩, .int .i64 0, .int .i64 1]) ∧ w' = w := by
  have HB : Hid (Calls _ _ _ _ _) := blocks_bad s a most w h
  clear h
  go_enter Try.func7, Try.ntmps7
  go_wp2_with fail
  refine (Hid.out HB : Calls _ _ _ _ _).mono ?_
  rintro e w1 ⟨rfl, hw1⟩
  obtain rfl : w = w1 := hw1.symm
  clear hw1 HB
  go_wp2
  exact bodyPost_ret (v := .tuple #[.string ⟨#[]⟩, .int .i64 0, .int .i64 1]) (by simp [results, Try.results7, go_sem]) rfl ⟨rfl, rfl⟩
set_option maxRecDepth 100000 in
set_option maxHeartbeats 2000000 in
theorem inflate_good (s S : ByteArray) (a most : Nat) (r : Except Nat (List Blk × Nat)) (w : World) (ha : a ≤ s.size) (hm : most ≤ 65536) (hs : s.size ≤ 100000000) (hS : S = s.extract a s.size) (h : blksF (bF8 S) (8 * S.size) most (8 * S.size + 1) 0 0 [] = r) :
    Calls Try.prog 7 #[.string s, .int .i64 (a : Int), .int .i64 (most : Int)] w fun e w' => (∃ l q, r = .ok (l, q) ∧ e = .returned (.tuple #[.string (bs (expF 9223372036854775807 (jkP l) []).1), .int .i64 (((q + 7) / 8 : Nat) : Int), .int .i64 0]) ∧ q ≤ 8 * S.size ∧ Below w.heap.size w w') ∨ (∃ er, r = .error er ∧ er ≠ 0 ∧ e = .returned (.tuple #[.string ⟨#[]⟩, .int .i64 0, .int .i64 (er : Int)]) ∧ Below w.heap.size w w') := by
  have hSs : S.size ≤ 100000000 := by
    rw [hS, ByteArray.size_extract]; omega
  have HBL : Hid (Calls _ _ _ _ _) := blocks_good s S a most r w ha hm hs hS h
  have HH : Hid (blksF (bF8 S) (8 * S.size) most (8 * S.size + 1) 0 0 [] = r) := h
  clear h hS
  go_enter Try.func7, Try.ntmps7
  go_wp2_with fail
  refine (Hid.out HBL : Calls _ _ _ _ _).mono ?_
  clear HBL
  rintro e w1 (⟨l, q, v, rfl, rfl, hO, hq, hll, hB⟩ | ⟨er, rfl, her, rfl, hB⟩)
  · have hout := blksF_out _ _ _ _ _ _ (Nat.zero_le _) (by simp [jkP]) HH.out
    have hje := jtk_eq hO
    have HJ : Hid (Calls _ _ _ _ _) := join_any w.heap.size v l w1 hO (by rw [hje]; omega) (by omega)
    rw [hje] at HJ
    have HB : Hid (Below w.heap.size w w1) := hB
    clear hO hB hje hout HH
    obtain ⟨x, hx⟩ : ∃ x, x = bs (expF 9223372036854775807 (jkP (l.map Prod.fst)) []).1 := ⟨_, rfl⟩
    rw [← hx] at HJ
    have HX : Hid (x = bs (expF 9223372036854775807 (jkP (l.map Prod.fst)) []).1) := hx
    obtain ⟨n, hn⟩ : ∃ n, n = (((q + 7) / 8 : Nat) : Int) := ⟨_, rfl⟩
    rw [← hn]
    have HNN : Hid (n = (((q + 7) / 8 : Nat) : Int)) := hn
    clear hx hn
    go_wp2_with fail
    refine (Hid.out HJ : Calls _ _ _ _ _).mono ?_
    rintro e w2 ⟨rfl, hb2⟩
    have HB2 : Hid (Below w.heap.size w w2) := HB.out.trans (hb2.mono HB.out.size)
    clear hb2 HJ
    go_wp2
    exact bodyPost_ret (v := .tuple #[.string x, .int .i64 n, .int .i64 0]) (by simp [results, Try.results7, go_sem]) rfl (.inl ⟨_, _, rfl, by rw [HX.out, HNN.out], hq, HB2.out⟩)
  · have HB : Hid (Below w.heap.size w w1) := hB
    have heri : ((er : Int) != 0) = true := by simpa using her
    clear hB HH
    go_wp2
    exact bodyPost_ret (v := .tuple #[.string ⟨#[]⟩, .int .i64 0, .int .i64 (er : Int)]) (by simp [results, Try.results7, go_sem]) rfl (.inr ⟨er, rfl, her, rfl, HB.out⟩)
end Go.Proofs.Ythkppipdflmekaa
