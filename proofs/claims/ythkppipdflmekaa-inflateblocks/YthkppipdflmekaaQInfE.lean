/- Contract of the reader's body. Contract of the reader's block. -/
import Derived.Test.YthkppipdflmekaaQInfB
import Derived.Deep.Onto
namespace Go.Proofs.Ythkppipdflmekaa
open Go.RowKit
set_option linter.unusedVariables false

/-- The body of a block of kind k. -/
def bdF (f : Nat → Bool) (L most p out k : Nat) : Except Nat (Blk × Nat × Nat) :=
  if k = 0 then (match stF f L most p out with
    | .error e => .error e
    | .ok (b, p1, o1) => .ok (⟨0, b, []⟩, p1, o1))
  else if k = 1 then (match tksF fixL fixD f L most (L + 1) p out [] with
    | .error e => .error e
    | .ok (t, p1, o1) => .ok (⟨1, [], t⟩, p1, o1))
  else if k = 2 then (match dynF f L p with
    | .error e => .error e
    | .ok (ls, ds, p1) => match tksF ls ds f L most (L + 1) p1 out [] with
      | .error e => .error e
      | .ok (t, p2, o2) => .ok (⟨2, [], t⟩, p2, o2))
  else .error 3
theorem blk_bd (f : Nat → Bool) (L most p out : Nat) : blkF f L most p out = (match tkF f L p 1 with
    | .error e => .error e
    | .ok last => match tkF f L (p + 1) 2 with
      | .error e => .error e
      | .ok kind => match bdF f L most (p + 3) out kind with
        | .error e => .error e
        | .ok (b, p1, o1) => .ok (b, last, p1, o1)) := by
  unfold blkF bdF
  cases tkF f L p 1 with
  | error e => rfl
  | ok last =>
    cases tkF f L (p + 1) 2 with
    | error e => rfl
    | ok kind =>
      simp only
      by_cases h0 : kind = 0
      · rw [if_pos h0, if_pos h0]; cases stF f L most (p + 3) out <;> rfl
      · rw [if_neg h0, if_neg h0]
        by_cases h1 : kind = 1
        · rw [if_pos h1, if_pos h1]; cases tksF fixL fixD f L most (L + 1) (p + 3) out [] <;> rfl
        · rw [if_neg h1, if_neg h1]
          by_cases h2 : kind = 2
          · rw [if_pos h2, if_pos h2]
            cases dynF f L (p + 3) with
            | error e => rfl
            | ok x =>
              simp only
              cases tksF x.1 x.2.1 f L most (L + 1) x.2.2 out [] <;> rfl
          · rw [if_neg h2, if_neg h2]
/-- A block written over another. -/
def putB (w : World) (b : Nat) (x y z : Value) : World := ((w.setCell ⟨b, 0, none⟩ x).setCell ⟨b, 1, none⟩ y).setCell ⟨b, 2, none⟩ z
theorem putB_heap {w : World} {b : Nat} {x y z : Value} {ty : TypeId} (h : w.heap[b]? = some (.cells #[x, y, z] ty (0, 0))) (x' y' z' : Value) : (putB w b x' y' z').heap[b]? = some (.cells #[x', y', z'] ty (0, 0)) := by
  unfold putB
  rw [heap_setCell_same _ _ _ _ _ _ (heap_setCell_same _ _ _ _ _ _ (heap_setCell_same _ _ _ _ _ _ h))]; rfl
theorem putB_grown (w : World) (b : Nat) (x y z : Value) : w.grownBy (putB w b x y z) (some b) :=
  grown_trans (grown_trans (grown_setCell w ⟨b, 0, none⟩ _) (grown_setCell _ ⟨b, 1, none⟩ _)) (grown_setCell _ ⟨b, 2, none⟩ _)
theorem foreignB : Foreign 37 := by unfold Foreign; decide
theorem blk_out {w w1 : World} {B gr gx : Nat} {s : ByteArray} {p most out : Nat} {x y z : Value} (hR : RdAt w1 B gr gx s p most out) {g : Nat} (hg : w.heap.size ≤ g) (hN : w1.heap[g]? = some (.cells #[x, y, z] 37 (0, 0))) (hK : KS w w1) (hB : Below B w w1) (hB0 : B ≤ w.heap.size) (x' y' z' : Value) :
    RdAt (putB w1 g x' y' z') B gr gx s p most out ∧ KS w (putB w1 g x' y' z') ∧ Below B w (putB w1 g x' y' z') :=
  ⟨hR.k1 (k1_grown (putB_grown _ _ _ _ _) hN) foreignB, ks_new hK (putB_grown _ _ _ _ _) hg, hB.grown (putB_grown _ _ _ _ _) (Nat.le_trans hB0 hB.size) (fun j hj => by cases hj; omega)⟩
theorem blk_outE {w w1 : World} {B : Nat} {g : Nat} (hg : w.heap.size ≤ g) (hK : KS w w1) (hB : Below B w w1) (hB0 : B ≤ w.heap.size) (x' y' z' : Value) :
    KS w (putB w1 g x' y' z') ∧ Below B w (putB w1 g x' y' z') :=
  ⟨ks_new hK (putB_grown _ _ _ _ _) hg, hB.grown (putB_grown _ _ _ _ _) (Nat.le_trans hB0 hB.size) (fun j hj => by cases hj; omega)⟩
theorem blk_own {w1 : World} {B n g : Nat} {x y z v : Value} {xs : List Value} (hN : w1.heap[g]? = some (.cells #[x, y, z] 37 (0, 0))) (hO : w1.ownsRow B 43 3 v n xs) (x' y' z' : Value) : (putB w1 g x' y' z').ownsRow B 43 3 v n xs :=
  own_k1 hO (k1_grown (putB_grown _ _ _ _ _) hN) (by decide)
/-- A block's value. -/
def BV (w : World) (B : Nat) (x : Value) (b : Blk) : Prop := ∃ t v, x = .agg #[.int .i64 (b.kind : Int), .string t, v] ∧ t.data.toList.map UInt8.toNat = b.bytes ∧ w.ownsRow B 43 3 v b.toks.length (tcs b.toks)
def B0 : Array Value := #[.int .i64 0, .string ⟨#[]⟩, .slice none 0 0]
set_option maxRecDepth 100000 in
set_option maxHeartbeats 4000000 in
theorem body_any (B gr gx k : Nat) (s : ByteArray) (p most out : Nat) (r : Except Nat (Blk × Nat × Nat)) (w : World) (hR : RdAt w B gr gx s p most out) (hs : s.size ≤ 100000000) (hp : p ≤ 8 * s.size) (ho : out ≤ most) (hm : most ≤ 70000) (h : bdF (bF8 s) (8 * s.size) most p out k = r) :
    Calls Try.prog 23 #[.pointer (some ⟨gr, 0, none⟩), .int .i64 (k : Int)] w fun e w' => (∃ b q o t va vl vc, r = .ok (b, q, o) ∧ e = .returned (.tuple #[.agg #[.int .i64 (b.kind : Int), .string t, .slice va vl vc], .int .i64 0]) ∧ BV w' w.heap.size (.agg #[.int .i64 (b.kind : Int), .string t, .slice va vl vc]) b ∧ q ≤ 8 * s.size ∧ p ≤ q ∧ o ≤ most ∧ RdAt w' B gr gx s q most o ∧ KS w w' ∧ Below B w w') ∨ (∃ er kx t va vl vc, r = .error er ∧ er ≠ 0 ∧ e = .returned (.tuple #[.agg #[.int .i64 kx, .string t, .slice va vl vc], .int .i64 (er : Int)]) ∧ KS w w' ∧ Below B w w') := by
  have hBw := hR.size
  have hA : Below w.heap.size w (w.alloc (.cells #[.int .i64 0, .string ⟨#[]⟩, .slice none 0 0] 37)) := (Below.refl _ w).alloc (Nat.le_refl _) _
  have hR0 := hR.below hA
  have HK0 : Hid (KS w (w.alloc (.cells #[.int .i64 0, .string ⟨#[]⟩, .slice none 0 0] 37))) := ks_below hA
  have HB0 : Hid (Below B w (w.alloc (.cells #[.int .i64 0, .string ⟨#[]⟩, .slice none 0 0] 37))) := hA.mono hBw
  have HN0 : Hid ((w.alloc (.cells #[.int .i64 0, .string ⟨#[]⟩, .slice none 0 0] 37)).heap[w.heap.size]? = some (.cells #[.int .i64 0, .string ⟨#[]⟩, .slice none 0 0] 37 (0, 0))) := heap_alloc_new w _
  have HSZ : Hid (w.heap.size ≤ (w.alloc (.cells #[.int .i64 0, .string ⟨#[]⟩, .slice none 0 0] 37)).heap.size) := hA.size
  have HR0 : Hid (RdAt (w.alloc (.cells #[.int .i64 0, .string ⟨#[]⟩, .slice none 0 0] 37)) B gr gx s p most out) := hR0
  clear hR hA hR0
  by_cases hk0 : k = 0
  · subst hk0
    unfold bdF at h
    rw [if_pos rfl] at h
    generalize hst : stF (bF8 s) (8 * s.size) most p out = st at h
    have HS : Hid (Calls _ _ _ _ _) := stored_any B gr gx s p most out st _ HR0.out hs hp ho hm hst
    have HH : Hid (_ = r) := h
    clear h hst
    go_enter Try.func23, Try.ntmps23
    go_wp2_with fail
    refine (Hid.out HS : Calls _ _ _ _ _).mono ?_
    rintro e w1 (⟨b, q, o, t, rfl, rfl, hb, hq, hpq, hom, hR1, hK1, hB1⟩ | ⟨er, t, rfl, her, rfl, hK1, hB1⟩)
    · have hN1 := hK1.2 _ _ _ _ HN0.out (by decide) (by decide)
      obtain ⟨r0, r1, r2, f0, f1, f2⟩ := tok_cell hN1
      have HO : Hid _ := blk_out hR1 (Nat.le_refl _) hN1 (HK0.out.trans hK1) (HB0.out.trans hB1) hBw (.int .i64 0) (.string t) (.slice none 0 0)
      have HB : Hid _ := hb
      clear hR1 hK1 hB1 hN1 HS HK0 HB0 HN0 HR0 hb HSZ
      go_wp2
      exact bodyPost_ret (v := .tuple #[.agg #[.int .i64 0, .string t, .slice none 0 0], .int .i64 0]) (by simp [results, Try.results23, go_sem, *]) rfl (.inl ⟨_, _, _, _, _, _, _, HH.out.symm, rfl, ⟨_, _, rfl, HB.out, World.ownsRow_nil _ _ _ _⟩, hq, hpq, hom, HO.out.1, HO.out.2.1, HO.out.2.2⟩)
    · have hN1 := hK1.2 _ _ _ _ HN0.out (by decide) (by decide)
      obtain ⟨r0, r1, r2, f0, f1, f2⟩ := tok_cell hN1
      have HO : Hid _ := blk_outE (Nat.le_refl w.heap.size) (HK0.out.trans hK1) (HB0.out.trans hB1) hBw (.int .i64 0) (.string t) (.slice none 0 0)
      clear hK1 hB1 hN1 HS HK0 HB0 HN0 HR0 HSZ
      go_wp2
      exact bodyPost_ret (v := .tuple #[.agg #[.int .i64 0, .string t, .slice none 0 0], .int .i64 (er : Int)]) (by simp [results, Try.results23, go_sem, *]) rfl (.inr ⟨er, _, _, _, _, _, HH.out.symm, her, rfl, HO.out.1, HO.out.2⟩)
  · have hk0i : ((k : Int) == 0) = false := by simpa using hk0
    have HC : Hid (Calls _ _ _ _ _) := codesOf_any B gr gx k s p most out _ HR0.out hs hp (by omega)
    have HH : Hid (bdF (bF8 s) (8 * s.size) most p out k = r) := h
    clear h
    go_enter Try.func23, Try.ntmps23
    go_wp2_with fail
    refine (Hid.out HC : Calls _ _ _ _ _).mono ?_
    rintro e w1 (⟨ls, ds, q, gc, hcase, rfl, hC, hl, hd, hq, hpq, hR1, hK1, hB1⟩ | ⟨er, hcase, her, rfl, hK1, hB1⟩)
    · have HH2 : Hid ((match tksF ls ds (bF8 s) (8 * s.size) most (8 * s.size + 1) q out [] with
        | .error e => .error e
        | .ok (t, p1, o1) => .ok (⟨k, [], t⟩, p1, o1)) = r) := by
          unfold Hid
          rw [← HH.out]
          unfold bdF
          rcases hcase with ⟨rfl, rfl, rfl, rfl⟩ | ⟨rfl, hdy⟩
          · rw [if_neg (by decide), if_pos rfl]
          · rw [if_neg (by decide), if_neg (by decide), if_pos rfl, hdy]
      generalize htk : tksF ls ds (bF8 s) (8 * s.size) most (8 * s.size + 1) q out [] = tk at HH2
      have HT : Hid (Calls _ _ _ _ _) := tokens_any B gr gx gc s q most out (8 * s.size + 1) ls ds tk w1 hR1 hC hl hd hs hq ho hm (by omega) htk
      have HK1 : Hid (KS w w1) := HK0.out.trans hK1
      have HB1 : Hid (Below B w w1) := HB0.out.trans hB1
      have HN1 : Hid _ := hK1.2 _ _ _ _ HN0.out (by decide) (by decide)
      have HS1 : Hid (w.heap.size ≤ w1.heap.size) := Nat.le_trans HSZ.out hK1.1
      clear hcase hC hl hd hR1 hK1 hB1 htk HH HC HN0 HK0 HB0 HR0 HSZ
      go_wp2_with fail
      refine (Hid.out HT : Calls _ _ _ _ _).mono ?_
      rintro e w2 (⟨ts, q2, o2, v, rfl, rfl, hO, hq2, hpq2, hom, hR2, hK2, hB2⟩ | ⟨er, rfl, her, rfl, hK2, hB2⟩)
      · obtain ⟨va, vc, rfl⟩ := own_slice hO
        generalize hv : Value.slice va ts.length vc = v at hO
        have hN2 := hK2.2 _ _ _ _ HN1.out (by decide) (by decide)
        obtain ⟨r0, r1, r2, f0, f1, f2⟩ := tok_cell hN2
        have HO : Hid _ := blk_out hR2 (Nat.le_refl _) hN2 (HK1.out.trans hK2) (HB1.out.trans hB2) hBw (.int .i64 (k : Int)) (.string ⟨#[]⟩) v
        have HW : Hid _ := (blk_own hN2 hO (.int .i64 (k : Int)) (.string ⟨#[]⟩) v).mono HS1.out
        subst hv
        clear hR2 hK2 hB2 hN2 HT HK1 HB1 HN1 hO HS1
        go_wp2
        exact bodyPost_ret (v := .tuple #[.agg #[.int .i64 (k : Int), .string ⟨#[]⟩, .slice va ts.length vc], .int .i64 0]) (by simp [results, Try.results23, go_sem, *]) rfl (.inl ⟨_, _, _, _, _, _, _, HH2.out.symm, rfl, ⟨_, _, rfl, rfl, HW.out⟩, hq2, by omega, hom, HO.out.1, HO.out.2.1, HO.out.2.2⟩)
      · have hN2 := hK2.2 _ _ _ _ HN1.out (by decide) (by decide)
        obtain ⟨r0, r1, r2, f0, f1, f2⟩ := tok_cell hN2
        have HO : Hid _ := blk_outE (Nat.le_refl w.heap.size) (HK1.out.trans hK2) (HB1.out.trans hB2) hBw (.int .i64 (k : Int)) (.string ⟨#[]⟩) (.slice none 0 0)
        clear hK2 hB2 hN2 HT HK1 HB1 HN1 HS1
        go_wp2
        exact bodyPost_ret (v := .tuple #[.agg #[.int .i64 (k : Int), .string ⟨#[]⟩, .slice none 0 0], .int .i64 (er : Int)]) (by simp [results, Try.results23, go_sem, *]) rfl (.inr ⟨er, _, _, _, _, _, HH2.out.symm, her, rfl, HO.out.1, HO.out.2⟩)
    · have HRE : Hid (.error er = r) := by
        unfold Hid
        rw [← HH.out]
        unfold bdF
        rcases hcase with ⟨rfl, hdy⟩ | ⟨h2, rfl⟩
        · rw [if_neg (by decide), if_neg (by decide), if_pos rfl, hdy]
        · rw [if_neg (by omega), if_neg (by omega), if_neg (by omega)]
      have hN1 := hK1.2 _ _ _ _ HN0.out (by decide) (by decide)
      obtain ⟨r0, r1, r2, f0, f1, f2⟩ := tok_cell hN1
      have HO : Hid _ := blk_outE (Nat.le_refl w.heap.size) (HK0.out.trans hK1) (HB0.out.trans hB1) hBw (.int .i64 0) (.string ⟨#[]⟩) (.slice none 0 0)
      have heri : ((er : Int) != 0) = true := by simpa using her
      clear hK1 hB1 hN1 HC HK0 HB0 HN0 HR0 HSZ hcase HH
      go_wp2
      exact bodyPost_ret (v := .tuple #[.agg #[.int .i64 0, .string ⟨#[]⟩, .slice none 0 0], .int .i64 (er : Int)]) (by simp [results, Try.results23, go_sem, *]) rfl (.inr ⟨er, _, _, _, _, _, HRE.out.symm, her, rfl, HO.out.1, HO.out.2⟩)
end Go.Proofs.Ythkppipdflmekaa
namespace Go.Proofs.Ythkppipdflmekaa
open Go.RowKit
set_option linter.unusedVariables false

set_option maxRecDepth 100000 in
set_option maxHeartbeats 4000000 in
theorem block_any (B gr gx : Nat) (s : ByteArray) (p most out : Nat) (r : Except Nat (Blk × Nat × Nat × Nat)) (w : World) (hR : RdAt w B gr gx s p most out) (hs : s.size ≤ 100000000) (hp : p ≤ 8 * s.size) (ho : out ≤ most) (hm : most ≤ 70000) (h : blkF (bF8 s) (8 * s.size) most p out = r) :
    Calls Try.prog 12 #[.pointer (some ⟨gr, 0, none⟩)] w fun e w' => (∃ b last q o t va vl vc, r = .ok (b, last, q, o) ∧ e = .returned (.tuple #[.agg #[.int .i64 (b.kind : Int), .string t, .slice va vl vc], .bool (decide (last = 1)), .int .i64 0]) ∧ BV w' w.heap.size (.agg #[.int .i64 (b.kind : Int), .string t, .slice va vl vc]) b ∧ q ≤ 8 * s.size ∧ p < q ∧ o ≤ most ∧ RdAt w' B gr gx s q most o ∧ KS w w' ∧ Below B w w') ∨ (∃ er bb kx t va vl vc, r = .error er ∧ er ≠ 0 ∧ e = .returned (.tuple #[.agg #[.int .i64 kx, .string t, .slice va vl vc], .bool bb, .int .i64 (er : Int)]) ∧ KS w w' ∧ Below B w w') := by
  have hBw := hR.size
  have hA : Below w.heap.size w (w.alloc (.cells #[.int .i64 0, .string ⟨#[]⟩, .slice none 0 0] 37)) := (Below.refl _ w).alloc (Nat.le_refl _) _
  have HR0 : Hid (RdAt (w.alloc (.cells #[.int .i64 0, .string ⟨#[]⟩, .slice none 0 0] 37)) B gr gx s p most out) := hR.below hA
  have HK0 : Hid (KS w (w.alloc (.cells #[.int .i64 0, .string ⟨#[]⟩, .slice none 0 0] 37))) := ks_below hA
  have HB0 : Hid (Below B w (w.alloc (.cells #[.int .i64 0, .string ⟨#[]⟩, .slice none 0 0] 37))) := hA.mono hBw
  have HN0 : Hid ((w.alloc (.cells #[.int .i64 0, .string ⟨#[]⟩, .slice none 0 0] 37)).heap[w.heap.size]? = some (.cells #[.int .i64 0, .string ⟨#[]⟩, .slice none 0 0] 37 (0, 0))) := heap_alloc_new w _
  have HSZ : Hid (w.heap.size ≤ (w.alloc (.cells #[.int .i64 0, .string ⟨#[]⟩, .slice none 0 0] 37)).heap.size) := hA.size
  rw [blk_bd] at h
  cases ht : tkF (bF8 s) (8 * s.size) p 1 with
  | error er =>
    have HT : Hid (Calls _ _ _ _ _) := rtake_err B gr gx s p most out 1 er _ HR0.out hs (by decide) hp ht
    rw [ht] at h
    have HRE : Hid (.error er = r) := h
    obtain ⟨_, rfl⟩ := tkF_err ht
    clear h ht hR hA
    go_enter Try.func12, Try.ntmps12
    go_wp2_with fail
    refine (Hid.out HT : Calls _ _ _ _ _).mono ?_
    rintro e w1 ⟨rfl, hK1, hB1⟩
    have hN1 := hK1.2 _ _ _ _ HN0.out (by decide) (by decide)
    obtain ⟨r0, r1, r2, f0, f1, f2⟩ := tok_cell hN1
    have HO : Hid _ := blk_outE (Nat.le_refl w.heap.size) (HK0.out.trans hK1) (HB0.out.trans hB1) hBw (.int .i64 0) (.string ⟨#[]⟩) (.slice none 0 0)
    clear hK1 hB1 hN1 HT HK0 HB0 HN0 HR0 HSZ
    go_wp2
    exact bodyPost_ret (v := .tuple #[.agg #[.int .i64 0, .string ⟨#[]⟩, .slice none 0 0], .bool false, .int .i64 6]) (by simp [results, Try.results12, go_sem, *]) rfl (.inr ⟨6, _, _, _, _, _, _, HRE.out.symm, by decide, rfl, HO.out.1, HO.out.2⟩)
  | ok last =>
    have HT : Hid (Calls _ _ _ _ _) := rtake_ok B gr gx s p most out 1 last _ HR0.out hs (by decide) ht
    simp only [ht] at h
    obtain ⟨hle, hlv⟩ := tkF_ok ht
    have hl2 : last < 2 := by rw [hlv]; exact takeN_lt _ 1
    clear ht hR hA hlv
    have HH : Hid (_ = r) := h
    clear h
    go_enter Try.func12, Try.ntmps12
    go_wp2_with fail
    refine (Hid.out HT : Calls _ _ _ _ _).mono ?_
    rintro e w1 ⟨rfl, hR1, hK1, hB1⟩
    have HR1 : Hid (RdAt w1 B gr gx s (p + 1) most out) := hR1
    have HK1 : Hid (KS w w1) := HK0.out.trans hK1
    have HB1 : Hid (Below B w w1) := HB0.out.trans hB1
    have HN1 : Hid (w1.heap[w.heap.size]? = some (.cells #[.int .i64 0, .string ⟨#[]⟩, .slice none 0 0] 37 (0, 0))) := hK1.2 _ _ _ _ HN0.out (by decide) (by decide)
    clear hR1 hK1 hB1 HT HK0 HB0 HN0 HR0 HSZ
    cases ht : tkF (bF8 s) (8 * s.size) (p + 1) 2 with
    | error er =>
      have HT : Hid (Calls _ _ _ _ _) := rtake_err B gr gx s (p + 1) most out 2 er w1 HR1.out hs (by decide) (by omega) ht
      have h := HH.out
      simp only [ht] at h
      have HRE : Hid (.error er = r) := h
      obtain ⟨_, rfl⟩ := tkF_err ht
      clear h ht HH
      go_wp2_with fail
      refine (Hid.out HT : Calls _ _ _ _ _).mono ?_
      rintro e w2 ⟨rfl, hK2, hB2⟩
      have hN2 := hK2.2 _ _ _ _ HN1.out (by decide) (by decide)
      obtain ⟨r0, r1, r2, f0, f1, f2⟩ := tok_cell hN2
      have HO : Hid _ := blk_outE (Nat.le_refl w.heap.size) (HK1.out.trans hK2) (HB1.out.trans hB2) hBw (.int .i64 0) (.string ⟨#[]⟩) (.slice none 0 0)
      clear hK2 hB2 hN2 HT HK1 HB1 HN1 HR1
      go_wp2
      exact bodyPost_ret (v := .tuple #[.agg #[.int .i64 0, .string ⟨#[]⟩, .slice none 0 0], .bool false, .int .i64 6]) (by simp [results, Try.results12, go_sem, *]) rfl (.inr ⟨6, _, _, _, _, _, _, HRE.out.symm, by decide, rfl, HO.out.1, HO.out.2⟩)
    | ok kind =>
      have HT : Hid (Calls _ _ _ _ _) := rtake_ok B gr gx s (p + 1) most out 2 kind w1 HR1.out hs (by decide) ht
      have h := HH.out
      simp only [ht] at h
      have hle2 := (tkF_ok ht).1
      generalize hbd : bdF (bF8 s) (8 * s.size) most (p + 3) out kind = bd at h
      have HH2 : Hid (_ = r) := h
      have HBD : Hid (bdF (bF8 s) (8 * s.size) most (p + 3) out kind = bd) := hbd
      clear h ht HH hbd
      go_wp2_with fail
      refine (Hid.out HT : Calls _ _ _ _ _).mono ?_
      rintro e w2 ⟨rfl, hR2, hK2, hB2⟩
      have HBO : Hid (Calls _ _ _ _ _) := body_any B gr gx kind s (p + 3) most out bd w2 hR2 hs (by omega) ho hm HBD.out
      have HK2 : Hid (KS w w2) := HK1.out.trans hK2
      have HB2 : Hid (Below B w w2) := HB1.out.trans hB2
      have HN2 : Hid (w2.heap[w.heap.size]? = some (.cells #[.int .i64 0, .string ⟨#[]⟩, .slice none 0 0] 37 (0, 0))) := hK2.2 _ _ _ _ HN1.out (by decide) (by decide)
      have HS2 : Hid (w.heap.size < w2.heap.size) := (Array.getElem?_eq_some_iff.1 HN2.out).1
      clear hR2 hK2 hB2 HT HK1 HB1 HN1 HR1 HBD
      go_wp2_with fail
      refine (Hid.out HBO : Calls _ _ _ _ _).mono ?_
      rintro e w3 (⟨b, q, o, t, va, vl, vc, rfl, rfl, hV, hq, hpq, hom, hR3, hK3, hB3⟩ | ⟨er, kx, t, va, vl, vc, rfl, her, rfl, hK3, hB3⟩)
      · have hN3 := hK3.2 _ _ _ _ HN2.out (by decide) (by decide)
        have hA4 : Below w3.heap.size w3 (w3.alloc (.cells #[.int .i64 (b.kind : Int), .string t, .slice va vl vc] 37)) := (Below.refl _ w3).alloc (Nat.le_refl _) _
        have hN4 : (w3.alloc (.cells #[.int .i64 (b.kind : Int), .string t, .slice va vl vc] 37)).heap[w.heap.size]? = some (.cells #[.int .i64 0, .string ⟨#[]⟩, .slice none 0 0] 37 (0, 0)) := (ks_below hA4).2 _ _ _ _ hN3 (by decide) (by decide)
        have hB3s : B ≤ w3.heap.size := hR3.size
        have HO : Hid _ := blk_out (hR3.below hA4) (Nat.le_refl _) hN4 ((HK2.out.trans hK3).trans (ks_below hA4)) ((HB2.out.trans hB3).trans (hA4.mono hB3s)) hBw (.int .i64 (b.kind : Int)) (.string t) (.slice va vl vc)
        obtain ⟨tt, v, hx, hy, hz⟩ := hV
        have HV : Hid (BV (putB (w3.alloc (.cells #[.int .i64 (b.kind : Int), .string t, .slice va vl vc] 37)) w.heap.size (.int .i64 (b.kind : Int)) (.string t) (.slice va vl vc)) w.heap.size (.agg #[.int .i64 (b.kind : Int), .string t, .slice va vl vc]) b) :=
          ⟨tt, v, hx, hy, blk_own hN4 ((own_ks hz (ks_below hA4) (by decide) (by decide)).mono (Nat.le_of_lt HS2.out)) _ _ _⟩
        obtain ⟨r0, r1, r2, f0, f1, f2⟩ := tok_cell hN4
        have hlb : ((last : Int) == 1) = decide (last = 1) := by
          rw [Bool.eq_iff_iff, decide_eq_true_eq, beq_iff_eq]; omega
        clear hN3 hA4 hN4 hx hy hz hR3 hK3 hB3 HK2 HB2 HN2 HS2 HBO hB3s
        go_wp2
        exact bodyPost_ret (v := .tuple #[.agg #[.int .i64 (b.kind : Int), .string t, .slice va vl vc], .bool (decide (last = 1)), .int .i64 0]) (by simp [results, Try.results12, go_sem, *]) rfl (.inl ⟨_, _, _, _, _, _, _, _, HH2.out.symm, rfl, HV.out, hq, by omega, hom, HO.out.1, HO.out.2.1, HO.out.2.2⟩)
      · have hN3 := hK3.2 _ _ _ _ HN2.out (by decide) (by decide)
        have hA4 : Below w3.heap.size w3 (w3.alloc (.cells #[.int .i64 kx, .string t, .slice va vl vc] 37)) := (Below.refl _ w3).alloc (Nat.le_refl _) _
        have hN4 : (w3.alloc (.cells #[.int .i64 kx, .string t, .slice va vl vc] 37)).heap[w.heap.size]? = some (.cells #[.int .i64 0, .string ⟨#[]⟩, .slice none 0 0] 37 (0, 0)) := (ks_below hA4).2 _ _ _ _ hN3 (by decide) (by decide)
        have hB3s : B ≤ w3.heap.size := by have := HS2.out; have := hK3.1; omega
        have HO : Hid _ := blk_outE (Nat.le_refl w.heap.size) ((HK2.out.trans hK3).trans (ks_below hA4)) ((HB2.out.trans hB3).trans (hA4.mono hB3s)) hBw (.int .i64 kx) (.string t) (.slice va vl vc)
        obtain ⟨r0, r1, r2, f0, f1, f2⟩ := tok_cell hN4
        have hlb : ((last : Int) == 1) = decide (last = 1) := by
          rw [Bool.eq_iff_iff, decide_eq_true_eq, beq_iff_eq]; omega
        clear hN3 hA4 hN4 hK3 hB3 HK2 HB2 HN2 HS2 HBO hB3s
        go_wp2
        exact bodyPost_ret (v := .tuple #[.agg #[.int .i64 kx, .string t, .slice va vl vc], .bool (decide (last = 1)), .int .i64 (er : Int)]) (by simp [results, Try.results12, go_sem, *]) rfl (.inr ⟨er, _, _, _, _, _, _, HH2.out.symm, her, rfl, HO.out.1, HO.out.2⟩)
end Go.Proofs.Ythkppipdflmekaa
