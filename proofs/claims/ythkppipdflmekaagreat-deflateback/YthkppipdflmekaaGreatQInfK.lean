/- Contract of Join. -/
import Derived.Test.YthkppipdflmekaaGreatQInfB
import Derived.Deep.Onto
import Derived.Laws.AppendOwnNone
set_option maxRecDepth 100000
set_option maxHeartbeats 4000000
namespace Go.Proofs.YthkppipdflmekaaGreat
open Go.RowKit
set_option linter.unusedVariables false
def bdF (f : Nat → Bool) (L most p out k : Nat) : Except Nat (Blk × Nat × Nat) :=
 if k = 0 then (match stF f L most p out with
  | .error e => .error e
  | .ok (b, p1, o1) => .ok (⟨0, b, []⟩, p1, o1))
 else if k = 1 then (match tksF fixL fixD f L most (L + 1) p out [] with
  | .error e => .error e
  | .ok (t, p1, o1) => .ok (⟨1, [], t⟩, p1, o1))
 else if k = 2 then (match dynF f L p with
  | .error e => .error e
  | .ok (ls, ds, p1) => match tksF ls ds f L most (L + 1) p1 out [] with
   | .error e => .error e
   | .ok (t, p2, o2) => .ok (⟨2, [], t⟩, p2, o2))
 else .error 3
theorem qha (f : Nat → Bool) (L most p out : Nat) : blkF f L most p out = (match tkF f L p 1 with
    | .error e => .error e
    | .ok last => match tkF f L (p + 1) 2 with
     | .error e => .error e
     | .ok kind => match bdF f L most (p + 3) out kind with
      | .error e => .error e
      | .ok (b, p1, o1) => .ok (b, last, p1, o1)) := by
 unfold blkF bdF
 cases tkF f L p 1 with
 | error e => rfl
 | ok last =>
  cases tkF f L (p + 1) 2 with
  | error e => rfl
  | ok kind =>
   simp only
   by_cases h0 : kind = 0
   · rw [if_pos h0, if_pos h0]; cases stF f L most (p + 3) out <;> rfl
   · rw [if_neg h0, if_neg h0]
     by_cases h1 : kind = 1
     · rw [if_pos h1, if_pos h1]; cases tksF fixL fixD f L most (L + 1) (p + 3) out [] <;> rfl
     · rw [if_neg h1, if_neg h1]
       by_cases h2 : kind = 2
       · rw [if_pos h2, if_pos h2]
         cases dynF f L (p + 3) with
         | error e => rfl
         | ok x =>
          simp only
          cases tksF x.1 x.2.1 f L most (L + 1) x.2.2 out [] <;> rfl
       · rw [if_neg h2, if_neg h2]
def putB (w : World) (b : Nat) (x y z : Value) : World := ((w.setCell ⟨b, 0, none⟩ x).setCell ⟨b, 1, none⟩ y).setCell ⟨b, 2, none⟩ z
theorem qc3 (w : World) (b : Nat) (x y z : Value) : w.grownBy (putB w b x y z) (some b) :=
 qd3 (qd3 (qa5 w ⟨b, 0, none⟩ _) (qa5 _ ⟨b, 1, none⟩ _)) (qa5 _ ⟨b, 2, none⟩ _)
theorem qrw : qdo 91 := by unfold qdo; decide
theorem qp1 {w w1 : World} {B gr gx : Nat} {s : ByteArray} {p most out : Nat} {x y z : Value} (hR : RdAt w1 B gr gx s p most out) {g : Nat} (hg : w.heap.size ≤ g) (hN : w1.heap[g]? = some (.cells #[x, y, z] 91 (0, 0))) (hK : KS w w1) (hB : Below B w w1) (hB0 : B ≤ w.heap.size) (x' y' z' : Value) :
    RdAt (putB w1 g x' y' z') B gr gx s p most out ∧ KS w (putB w1 g x' y' z') ∧ Below B w (putB w1 g x' y' z') :=
 ⟨hR.k1 (qf7 (qc3 _ _ _ _ _) hN) qrw, qg8 hK (qc3 _ _ _ _ _) hg, hB.grown (qc3 _ _ _ _ _) (Nat.le_trans hB0 hB.size) (fun j hj => by cases hj; omega)⟩
theorem qfb {w w1 : World} {B : Nat} {g : Nat} (hg : w.heap.size ≤ g) (hK : KS w w1) (hB : Below B w w1) (hB0 : B ≤ w.heap.size) (x' y' z' : Value) :
    KS w (putB w1 g x' y' z') ∧ Below B w (putB w1 g x' y' z') :=
 ⟨qg8 hK (qc3 _ _ _ _ _) hg, hB.grown (qc3 _ _ _ _ _) (Nat.le_trans hB0 hB.size) (fun j hj => by cases hj; omega)⟩
theorem qxf {w1 : World} {B n g : Nat} {x y z v : Value} {xs : List Value} (hN : w1.heap[g]? = some (.cells #[x, y, z] 91 (0, 0))) (hO : w1.ownsRow B 95 3 v n xs) (x' y' z' : Value) : (putB w1 g x' y' z').ownsRow B 95 3 v n xs :=
 qvx hO (qf7 (qc3 _ _ _ _ _) hN) (by decide)
def BV (w : World) (B : Nat) (x : Value) (b : Blk) : Prop := ∃ t v, x = .agg #[.int .i64 (b.kind : Int), .string t, v] ∧ t.data.toList.map UInt8.toNat = b.bytes ∧ w.ownsRow B 95 3 v b.toks.length (tcs b.toks)
theorem q0d (B gr gx k : Nat) (s : ByteArray) (p most out : Nat) (r : Except Nat (Blk × Nat × Nat)) (w : World) (hR : RdAt w B gr gx s p most out) (hs : s.size ≤ 100000000) (hp : p ≤ 8 * s.size) (ho : out ≤ most) (hm : most ≤ 70000) (h : bdF (bF8 s) (8 * s.size) most p out k = r) :
    Calls Tryz.prog 65 #[.pointer (some ⟨gr, 0, none⟩), .int .i64 (k : Int)] w fun e w' => (∃ b q o t va vl vc, r = .ok (b, q, o) ∧ e = .returned (.tuple #[.agg #[.int .i64 (b.kind : Int), .string t, .slice va vl vc], .int .i64 0]) ∧ BV w' w.heap.size (.agg #[.int .i64 (b.kind : Int), .string t, .slice va vl vc]) b ∧ q ≤ 8 * s.size ∧ p ≤ q ∧ o ≤ most ∧ RdAt w' B gr gx s q most o ∧ KS w w' ∧ Below B w w') ∨ (∃ er kx t va vl vc, r = .error er ∧ er ≠ 0 ∧ e = .returned (.tuple #[.agg #[.int .i64 kx, .string t, .slice va vl vc], .int .i64 (er : Int)]) ∧ KS w w' ∧ Below B w w') := by
 have hBw := hR.size
 have hA : Below w.heap.size w (w.alloc (.cells #[.int .i64 0, .string ⟨#[]⟩, .slice none 0 0] 91)) := (Below.refl _ w).alloc (Nat.le_refl _) _
 have hR0 := hR.below hA
 have HK0 : Hid (KS w (w.alloc (.cells #[.int .i64 0, .string ⟨#[]⟩, .slice none 0 0] 91))) := qbd hA
 have HB0 : Hid (Below B w (w.alloc (.cells #[.int .i64 0, .string ⟨#[]⟩, .slice none 0 0] 91))) := hA.mono hBw
 have HN0 : Hid ((w.alloc (.cells #[.int .i64 0, .string ⟨#[]⟩, .slice none 0 0] 91)).heap[w.heap.size]? = some (.cells #[.int .i64 0, .string ⟨#[]⟩, .slice none 0 0] 91 (0, 0))) := heap_alloc_new w _
 have HSZ : Hid (w.heap.size ≤ (w.alloc (.cells #[.int .i64 0, .string ⟨#[]⟩, .slice none 0 0] 91)).heap.size) := hA.size
 have HR0 : Hid (RdAt (w.alloc (.cells #[.int .i64 0, .string ⟨#[]⟩, .slice none 0 0] 91)) B gr gx s p most out) := hR0
 clear hR hA hR0
 by_cases hk0 : k = 0
 · subst hk0
   unfold bdF at h
   rw [if_pos rfl] at h
   generalize hst : stF (bF8 s) (8 * s.size) most p out = st at h
   have HS : Hid (Calls _ _ _ _ _) := qsw B gr gx s p most out st _ HR0.out hs hp ho hm hst
   have HH : Hid (_ = r) := h
   clear h hst
   go_enter Tryz.func65, Tryz.ntmps65
   go_wp2_with fail
   refine (Hid.out HS : Calls _ _ _ _ _).mono ?_
   rintro e w1 (⟨b, q, o, t, rfl, rfl, hb, hq, hpq, hom, hR1, hK1, hB1⟩ | ⟨er, t, rfl, her, rfl, hK1, hB1⟩)
   · have hN1 := hK1.2 _ _ _ _ HN0.out (by decide) (by decide)
     obtain ⟨r0, r1, r2, f0, f1, f2⟩ := qaf hN1
     have HO : Hid _ := qp1 hR1 (Nat.le_refl _) hN1 (HK0.out.trans hK1) (HB0.out.trans hB1) hBw (.int .i64 0) (.string t) (.slice none 0 0)
     have HB : Hid _ := hb
     clear hR1 hK1 hB1 hN1 HS HK0 HB0 HN0 HR0 hb HSZ
     go_wp2
     exact bodyPost_ret (v := .tuple #[.agg #[.int .i64 0, .string t, .slice none 0 0], .int .i64 0]) (by simp [results, Tryz.results65, go_sem, *]) rfl (.inl ⟨_, _, _, _, _, _, _, HH.out.symm, rfl, ⟨_, _, rfl, HB.out, World.ownsRow_nil _ _ _ _⟩, hq, hpq, hom, HO.out.1, HO.out.2.1, HO.out.2.2⟩)
   · have hN1 := hK1.2 _ _ _ _ HN0.out (by decide) (by decide)
     obtain ⟨r0, r1, r2, f0, f1, f2⟩ := qaf hN1
     have HO : Hid _ := qfb (Nat.le_refl w.heap.size) (HK0.out.trans hK1) (HB0.out.trans hB1) hBw (.int .i64 0) (.string t) (.slice none 0 0)
     clear hK1 hB1 hN1 HS HK0 HB0 HN0 HR0 HSZ
     go_wp2
     exact bodyPost_ret (v := .tuple #[.agg #[.int .i64 0, .string t, .slice none 0 0], .int .i64 (er : Int)]) (by simp [results, Tryz.results65, go_sem, *]) rfl (.inr ⟨er, _, _, _, _, _, HH.out.symm, her, rfl, HO.out.1, HO.out.2⟩)
 · have hk0i : ((k : Int) == 0) = false := by simpa using hk0
   have HC : Hid (Calls _ _ _ _ _) := qps B gr gx k s p most out _ HR0.out hs hp (by omega)
   have HH : Hid (bdF (bF8 s) (8 * s.size) most p out k = r) := h
   clear h
   go_enter Tryz.func65, Tryz.ntmps65
   go_wp2_with fail
   refine (Hid.out HC : Calls _ _ _ _ _).mono ?_
   rintro e w1 (⟨ls, ds, q, gc, hcase, rfl, hC, hl, hd, hq, hpq, hR1, hK1, hB1⟩ | ⟨er, hcase, her, rfl, hK1, hB1⟩)
   · have HH2 : Hid ((match tksF ls ds (bF8 s) (8 * s.size) most (8 * s.size + 1) q out [] with
       | .error e => .error e
       | .ok (t, p1, o1) => .ok (⟨k, [], t⟩, p1, o1)) = r) := by
        unfold Hid
        rw [← HH.out]
        unfold bdF
        rcases hcase with ⟨rfl, rfl, rfl, rfl⟩ | ⟨rfl, hdy⟩
        · rw [if_neg (by decide), if_pos rfl]
        · rw [if_neg (by decide), if_neg (by decide), if_pos rfl, hdy]
     generalize htk : tksF ls ds (bF8 s) (8 * s.size) most (8 * s.size + 1) q out [] = tk at HH2
     have HT : Hid (Calls _ _ _ _ _) := qsq B gr gx gc s q most out (8 * s.size + 1) ls ds tk w1 hR1 hC hl hd hs hq ho hm (by omega) htk
     have HK1 : Hid (KS w w1) := HK0.out.trans hK1
     have HB1 : Hid (Below B w w1) := HB0.out.trans hB1
     have HN1 : Hid _ := hK1.2 _ _ _ _ HN0.out (by decide) (by decide)
     have HS1 : Hid (w.heap.size ≤ w1.heap.size) := Nat.le_trans HSZ.out hK1.1
     clear hcase hC hl hd hR1 hK1 hB1 htk HH HC HN0 HK0 HB0 HR0 HSZ
     go_wp2_with fail
     refine (Hid.out HT : Calls _ _ _ _ _).mono ?_
     rintro e w2 (⟨ts, q2, o2, v, rfl, rfl, hO, hq2, hpq2, hom, hR2, hK2, hB2⟩ | ⟨er, rfl, her, rfl, hK2, hB2⟩)
     · obtain ⟨va, vc, rfl⟩ := qam hO
       generalize hv : Value.slice va ts.length vc = v at hO
       have hN2 := hK2.2 _ _ _ _ HN1.out (by decide) (by decide)
       obtain ⟨r0, r1, r2, f0, f1, f2⟩ := qaf hN2
       have HO : Hid _ := qp1 hR2 (Nat.le_refl _) hN2 (HK1.out.trans hK2) (HB1.out.trans hB2) hBw (.int .i64 (k : Int)) (.string ⟨#[]⟩) v
       have HW : Hid _ := (qxf hN2 hO (.int .i64 (k : Int)) (.string ⟨#[]⟩) v).mono HS1.out
       subst hv
       clear hR2 hK2 hB2 hN2 HT HK1 HB1 HN1 hO HS1
       go_wp2
       exact bodyPost_ret (v := .tuple #[.agg #[.int .i64 (k : Int), .string ⟨#[]⟩, .slice va ts.length vc], .int .i64 0]) (by simp [results, Tryz.results65, go_sem, *]) rfl (.inl ⟨_, _, _, _, _, _, _, HH2.out.symm, rfl, ⟨_, _, rfl, rfl, HW.out⟩, hq2, by omega, hom, HO.out.1, HO.out.2.1, HO.out.2.2⟩)
     · have hN2 := hK2.2 _ _ _ _ HN1.out (by decide) (by decide)
       obtain ⟨r0, r1, r2, f0, f1, f2⟩ := qaf hN2
       have HO : Hid _ := qfb (Nat.le_refl w.heap.size) (HK1.out.trans hK2) (HB1.out.trans hB2) hBw (.int .i64 (k : Int)) (.string ⟨#[]⟩) (.slice none 0 0)
       clear hK2 hB2 hN2 HT HK1 HB1 HN1 HS1
       go_wp2
       exact bodyPost_ret (v := .tuple #[.agg #[.int .i64 (k : Int), .string ⟨#[]⟩, .slice none 0 0], .int .i64 (er : Int)]) (by simp [results, Tryz.results65, go_sem, *]) rfl (.inr ⟨er, _, _, _, _, _, HH2.out.symm, her, rfl, HO.out.1, HO.out.2⟩)
   · have HRE : Hid (.error er = r) := by
       unfold Hid
       rw [← HH.out]
       unfold bdF
       rcases hcase with ⟨rfl, hdy⟩ | ⟨h2, rfl⟩
       · rw [if_neg (by decide), if_neg (by decide), if_pos rfl, hdy]
       · rw [if_neg (by omega), if_neg (by omega), if_neg (by omega)]
     have hN1 := hK1.2 _ _ _ _ HN0.out (by decide) (by decide)
     obtain ⟨r0, r1, r2, f0, f1, f2⟩ := qaf hN1
     have HO : Hid _ := qfb (Nat.le_refl w.heap.size) (HK0.out.trans hK1) (HB0.out.trans hB1) hBw (.int .i64 0) (.string ⟨#[]⟩) (.slice none 0 0)
     have heri : ((er : Int) != 0) = true := by simpa using her
     clear hK1 hB1 hN1 HC HK0 HB0 HN0 HR0 HSZ hcase HH
     go_wp2
     exact bodyPost_ret (v := .tuple #[.agg #[.int .i64 0, .string ⟨#[]⟩, .slice none 0 0], .int .i64 (er : Int)]) (by simp [results, Tryz.results65, go_sem, *]) rfl (.inr ⟨er, _, _, _, _, _, HRE.out.symm, her, rfl, HO.out.1, HO.out.2⟩)
theorem qxe (B gr gx : Nat) (s : ByteArray) (p most out : Nat) (r : Except Nat (Blk × Nat × Nat × Nat)) (w : World) (hR : RdAt w B gr gx s p most out) (hs : s.size ≤ 100000000) (hp : p ≤ 8 * s.size) (ho : out ≤ most) (hm : most ≤ 70000) (h : blkF (bF8 s) (8 * s.size) most p out = r) :
    Calls Tryz.prog 33 #[.pointer (some ⟨gr, 0, none⟩)] w fun e w' => (∃ b last q o t va vl vc, r = .ok (b, last, q, o) ∧ e = .returned (.tuple #[.agg #[.int .i64 (b.kind : Int), .string t, .slice va vl vc], .bool (decide (last = 1)), .int .i64 0]) ∧ BV w' w.heap.size (.agg #[.int .i64 (b.kind : Int), .string t, .slice va vl vc]) b ∧ q ≤ 8 * s.size ∧ p < q ∧ o ≤ most ∧ RdAt w' B gr gx s q most o ∧ KS w w' ∧ Below B w w') ∨ (∃ er bb kx t va vl vc, r = .error er ∧ er ≠ 0 ∧ e = .returned (.tuple #[.agg #[.int .i64 kx, .string t, .slice va vl vc], .bool bb, .int .i64 (er : Int)]) ∧ KS w w' ∧ Below B w w') := by
 have hBw := hR.size
 have hA : Below w.heap.size w (w.alloc (.cells #[.int .i64 0, .string ⟨#[]⟩, .slice none 0 0] 91)) := (Below.refl _ w).alloc (Nat.le_refl _) _
 have HR0 : Hid (RdAt (w.alloc (.cells #[.int .i64 0, .string ⟨#[]⟩, .slice none 0 0] 91)) B gr gx s p most out) := hR.below hA
 have HK0 : Hid (KS w (w.alloc (.cells #[.int .i64 0, .string ⟨#[]⟩, .slice none 0 0] 91))) := qbd hA
 have HB0 : Hid (Below B w (w.alloc (.cells #[.int .i64 0, .string ⟨#[]⟩, .slice none 0 0] 91))) := hA.mono hBw
 have HN0 : Hid ((w.alloc (.cells #[.int .i64 0, .string ⟨#[]⟩, .slice none 0 0] 91)).heap[w.heap.size]? = some (.cells #[.int .i64 0, .string ⟨#[]⟩, .slice none 0 0] 91 (0, 0))) := heap_alloc_new w _
 have HSZ : Hid (w.heap.size ≤ (w.alloc (.cells #[.int .i64 0, .string ⟨#[]⟩, .slice none 0 0] 91)).heap.size) := hA.size
 rw [qha] at h
 cases ht : tkF (bF8 s) (8 * s.size) p 1 with
 | error er =>
  have HT : Hid (Calls _ _ _ _ _) := qcb B gr gx s p most out 1 er _ HR0.out hs (by decide) hp ht
  rw [ht] at h
  have HRE : Hid (.error er = r) := h
  obtain ⟨_, rfl⟩ := qcu ht
  clear h ht hR hA
  go_enter Tryz.func33, Tryz.ntmps33
  go_wp2_with fail
  refine (Hid.out HT : Calls _ _ _ _ _).mono ?_
  rintro e w1 ⟨rfl, hK1, hB1⟩
  have hN1 := hK1.2 _ _ _ _ HN0.out (by decide) (by decide)
  obtain ⟨r0, r1, r2, f0, f1, f2⟩ := qaf hN1
  have HO : Hid _ := qfb (Nat.le_refl w.heap.size) (HK0.out.trans hK1) (HB0.out.trans hB1) hBw (.int .i64 0) (.string ⟨#[]⟩) (.slice none 0 0)
  clear hK1 hB1 hN1 HT HK0 HB0 HN0 HR0 HSZ
  go_wp2
  exact bodyPost_ret (v := .tuple #[.agg #[.int .i64 0, .string ⟨#[]⟩, .slice none 0 0], .bool false, .int .i64 6]) (by simp [results, Tryz.results33, go_sem, *]) rfl (.inr ⟨6, _, _, _, _, _, _, HRE.out.symm, by decide, rfl, HO.out.1, HO.out.2⟩)
 | ok last =>
  have HT : Hid (Calls _ _ _ _ _) := qcn B gr gx s p most out 1 last _ HR0.out hs (by decide) ht
  simp only [ht] at h
  obtain ⟨hle, hlv⟩ := qcg ht
  have hl2 : last < 2 := by rw [hlv]; exact qaw _ 1
  clear ht hR hA hlv
  have HH : Hid (_ = r) := h
  clear h
  go_enter Tryz.func33, Tryz.ntmps33
  go_wp2_with fail
  refine (Hid.out HT : Calls _ _ _ _ _).mono ?_
  rintro e w1 ⟨rfl, hR1, hK1, hB1⟩
  have HR1 : Hid (RdAt w1 B gr gx s (p + 1) most out) := hR1
  have HK1 : Hid (KS w w1) := HK0.out.trans hK1
  have HB1 : Hid (Below B w w1) := HB0.out.trans hB1
  have HN1 : Hid (w1.heap[w.heap.size]? = some (.cells #[.int .i64 0, .string ⟨#[]⟩, .slice none 0 0] 91 (0, 0))) := hK1.2 _ _ _ _ HN0.out (by decide) (by decide)
  clear hR1 hK1 hB1 HT HK0 HB0 HN0 HR0 HSZ
  cases ht : tkF (bF8 s) (8 * s.size) (p + 1) 2 with
  | error er =>
   have HT : Hid (Calls _ _ _ _ _) := qcb B gr gx s (p + 1) most out 2 er w1 HR1.out hs (by decide) (by omega) ht
   have h := HH.out
   simp only [ht] at h
   have HRE : Hid (.error er = r) := h
   obtain ⟨_, rfl⟩ := qcu ht
   clear h ht HH
   go_wp2_with fail
   refine (Hid.out HT : Calls _ _ _ _ _).mono ?_
   rintro e w2 ⟨rfl, hK2, hB2⟩
   have hN2 := hK2.2 _ _ _ _ HN1.out (by decide) (by decide)
   obtain ⟨r0, r1, r2, f0, f1, f2⟩ := qaf hN2
   have HO : Hid _ := qfb (Nat.le_refl w.heap.size) (HK1.out.trans hK2) (HB1.out.trans hB2) hBw (.int .i64 0) (.string ⟨#[]⟩) (.slice none 0 0)
   clear hK2 hB2 hN2 HT HK1 HB1 HN1 HR1
   go_wp2
   exact bodyPost_ret (v := .tuple #[.agg #[.int .i64 0, .string ⟨#[]⟩, .slice none 0 0], .bool false, .int .i64 6]) (by simp [results, Tryz.results33, go_sem, *]) rfl (.inr ⟨6, _, _, _, _, _, _, HRE.out.symm, by decide, rfl, HO.out.1, HO.out.2⟩)
  | ok kind =>
   have HT : Hid (Calls _ _ _ _ _) := qcn B gr gx s (p + 1) most out 2 kind w1 HR1.out hs (by decide) ht
   have h := HH.out
   simp only [ht] at h
   have hle2 := (qcg ht).1
   generalize hbd : bdF (bF8 s) (8 * s.size) most (p + 3) out kind = bd at h
   have HH2 : Hid (_ = r) := h
   have HBD : Hid (bdF (bF8 s) (8 * s.size) most (p + 3) out kind = bd) := hbd
   clear h ht HH hbd
   go_wp2_with fail
   refine (Hid.out HT : Calls _ _ _ _ _).mono ?_
   rintro e w2 ⟨rfl, hR2, hK2, hB2⟩
   have HBO : Hid (Calls _ _ _ _ _) := q0d B gr gx kind s (p + 3) most out bd w2 hR2 hs (by omega) ho hm HBD.out
   have HK2 : Hid (KS w w2) := HK1.out.trans hK2
   have HB2 : Hid (Below B w w2) := HB1.out.trans hB2
   have HN2 : Hid (w2.heap[w.heap.size]? = some (.cells #[.int .i64 0, .string ⟨#[]⟩, .slice none 0 0] 91 (0, 0))) := hK2.2 _ _ _ _ HN1.out (by decide) (by decide)
   have HS2 : Hid (w.heap.size < w2.heap.size) := (Array.getElem?_eq_some_iff.1 HN2.out).1
   clear hR2 hK2 hB2 HT HK1 HB1 HN1 HR1 HBD
   go_wp2_with fail
   refine (Hid.out HBO : Calls _ _ _ _ _).mono ?_
   rintro e w3 (⟨b, q, o, t, va, vl, vc, rfl, rfl, hV, hq, hpq, hom, hR3, hK3, hB3⟩ | ⟨er, kx, t, va, vl, vc, rfl, her, rfl, hK3, hB3⟩)
   · have hN3 := hK3.2 _ _ _ _ HN2.out (by decide) (by decide)
     have hA4 : Below w3.heap.size w3 (w3.alloc (.cells #[.int .i64 (b.kind : Int), .string t, .slice va vl vc] 91)) := (Below.refl _ w3).alloc (Nat.le_refl _) _
     have hN4 : (w3.alloc (.cells #[.int .i64 (b.kind : Int), .string t, .slice va vl vc] 91)).heap[w.heap.size]? = some (.cells #[.int .i64 0, .string ⟨#[]⟩, .slice none 0 0] 91 (0, 0)) := (qbd hA4).2 _ _ _ _ hN3 (by decide) (by decide)
     have hB3s : B ≤ w3.heap.size := hR3.size
     have HO : Hid _ := qp1 (hR3.below hA4) (Nat.le_refl _) hN4 ((HK2.out.trans hK3).trans (qbd hA4)) ((HB2.out.trans hB3).trans (hA4.mono hB3s)) hBw (.int .i64 (b.kind : Int)) (.string t) (.slice va vl vc)
     obtain ⟨tt, v, hx, hy, hz⟩ := hV
     have HV : Hid (BV (putB (w3.alloc (.cells #[.int .i64 (b.kind : Int), .string t, .slice va vl vc] 91)) w.heap.size (.int .i64 (b.kind : Int)) (.string t) (.slice va vl vc)) w.heap.size (.agg #[.int .i64 (b.kind : Int), .string t, .slice va vl vc]) b) :=
      ⟨tt, v, hx, hy, qxf hN4 ((qf4 hz (qbd hA4) (by decide) (by decide)).mono (Nat.le_of_lt HS2.out)) _ _ _⟩
     obtain ⟨r0, r1, r2, f0, f1, f2⟩ := qaf hN4
     have hlb : ((last : Int) == 1) = decide (last = 1) := by
      rw [Bool.eq_iff_iff, decide_eq_true_eq, beq_iff_eq]; omega
     clear hN3 hA4 hN4 hx hy hz hR3 hK3 hB3 HK2 HB2 HN2 HS2 HBO hB3s
     go_wp2
     exact bodyPost_ret (v := .tuple #[.agg #[.int .i64 (b.kind : Int), .string t, .slice va vl vc], .bool (decide (last = 1)), .int .i64 0]) (by simp [results, Tryz.results33, go_sem, *]) rfl (.inl ⟨_, _, _, _, _, _, _, _, HH2.out.symm, rfl, HV.out, hq, by omega, hom, HO.out.1, HO.out.2.1, HO.out.2.2⟩)
   · have hN3 := hK3.2 _ _ _ _ HN2.out (by decide) (by decide)
     have hA4 : Below w3.heap.size w3 (w3.alloc (.cells #[.int .i64 kx, .string t, .slice va vl vc] 91)) := (Below.refl _ w3).alloc (Nat.le_refl _) _
     have hN4 : (w3.alloc (.cells #[.int .i64 kx, .string t, .slice va vl vc] 91)).heap[w.heap.size]? = some (.cells #[.int .i64 0, .string ⟨#[]⟩, .slice none 0 0] 91 (0, 0)) := (qbd hA4).2 _ _ _ _ hN3 (by decide) (by decide)
     have hB3s : B ≤ w3.heap.size := by have := HS2.out; have := hK3.1; omega
     have HO : Hid _ := qfb (Nat.le_refl w.heap.size) ((HK2.out.trans hK3).trans (qbd hA4)) ((HB2.out.trans hB3).trans (hA4.mono hB3s)) hBw (.int .i64 kx) (.string t) (.slice va vl vc)
     obtain ⟨r0, r1, r2, f0, f1, f2⟩ := qaf hN4
     have hlb : ((last : Int) == 1) = decide (last = 1) := by
      rw [Bool.eq_iff_iff, decide_eq_true_eq, beq_iff_eq]; omega
     clear hN3 hA4 hN4 hK3 hB3 HK2 HB2 HN2 HS2 HBO hB3s
     go_wp2
     exact bodyPost_ret (v := .tuple #[.agg #[.int .i64 kx, .string t, .slice va vl vc], .bool (decide (last = 1)), .int .i64 (er : Int)]) (by simp [results, Tryz.results33, go_sem, *]) rfl (.inr ⟨er, _, _, _, _, _, _, HH2.out.symm, her, rfl, HO.out.1, HO.out.2⟩)
theorem Tryz.infoBk : (Tryz.prog.info? 91).map (fun i => (i.zero, i.size, i.bytes)) = some (some (.agg #[.int .i64 0, .string ⟨#[]⟩, .slice none 0 0]), 3, 48) := by kernel_rfl
abbrev Item := Blk × ByteArray × Value
def bcs (l : List Item) : List Value := l.flatMap fun x => [.int .i64 (x.1.kind : Int), .string x.2.1, x.2.2]
theorem qsj (l : List Item) (x : Item) : bcs (l ++ [x]) = bcs l ++ [.int .i64 (x.1.kind : Int), .string x.2.1, x.2.2] := by
 unfold bcs; rw [List.flatMap_append]; simp
def qmh (w : World) (B : Nat) (x : Item) : Prop := x.2.1.data.toList.map UInt8.toNat = x.1.bytes ∧ w.ownsRow B 95 3 x.2.2 x.1.toks.length (tcs x.1.toks)
def BRow (w : World) (B : Nat) (v : Value) (l : List Item) : Prop := w.ownsRow B 91 3 v l.length (bcs l) ∧ ∀ x ∈ l, qmh w B x
theorem BRow.nil (w : World) (B : Nat) : BRow w B (.slice none 0 0) [] := ⟨World.ownsRow_nil _ _ _ _, fun _ h => nomatch h⟩
theorem qmh.ks {w w' : World} {B : Nat} {x : Item} (h : qmh w B x) (hk : KS w w') : qmh w' B x := ⟨h.1, qf4 h.2 hk (by decide) (by decide)⟩
theorem BRow.ks {w w' : World} {B : Nat} {v : Value} {l : List Item} (h : BRow w B v l) (hk : KS w w') : BRow w' B v l := ⟨qf4 h.1 hk (by decide) (by decide), fun x hx => (h.2 x hx).ks hk⟩
theorem q00 {w w' : World} {C n sz : Nat} {ty : TypeId} {v : Value} {xs : List Value} (hO : w.ownsRow C ty sz v n xs) (hg : w.grownBy w' v.ownBlock) : K1 ty w w' :=
 ⟨hg.size, fun b c t q hc h1 => (hg.block b (Array.getElem?_eq_some_iff.1 hc).1 (qcd hO hc h1)).trans hc⟩
theorem qmh.k1 {w w' : World} {B : Nat} {x : Item} (h : qmh w B x) (hk : K1 91 w w') : qmh w' B x := ⟨h.1, qvx h.2 hk (by decide)⟩
theorem qj2 (w : World) (x y z : Value) (ty : TypeId) : ∀ j u, [x, y, z][j]? = some u → (w.alloc (.cells #[x, y, z] ty)).cell? ((⟨w.heap.size, 0, none⟩ : Addr).add j) = some u :=
 fun j u hu => by
  have hadd : (⟨w.heap.size, 0, none⟩ : Addr).add j = ⟨w.heap.size, j, none⟩ := by unfold Addr.add; split <;> simp_all
  rw [hadd, cell_of_row _ _ _ _ _ _ (heap_alloc_new w _)]
  simpa using hu
theorem qj0 (k : Int) (t : ByteArray) (a : Option Addr) (l c : Nat) : ∀ u ∈ [Value.int .i64 k, .string t, .slice a l c], u.oneCell' = true := by
 intro u hu
 simp only [List.mem_cons, List.not_mem_nil, or_false] at hu
 rcases hu with rfl | rfl | rfl <;> rfl
theorem q4f {w : World} {B gx : Nat} {s : ByteArray} (most : Nat) (hS : qa6 w gx s 0) (h1 : B ≤ gx) (h2 : B ≤ w.heap.size) : RdAt (w.alloc (.cells #[.pointer (some ⟨gx, 0, none⟩), .int .i64 (most : Int), .int .i64 0, .pointer none] 89)) B w.heap.size gx s 0 most 0 :=
 ⟨h2, h1, hS.below ((Below.refl _ w).alloc (Nat.le_refl _) _), none, heap_alloc_new w _, .inl rfl⟩
theorem qp0 (s S : ByteArray) (a most : Nat) (r : Except Nat (List Blk × Nat)) (w : World) (ha : a ≤ s.size) (hm : most ≤ 65536) (hs : s.size ≤ 100000000) (hS : S = s.extract a s.size) (h : qbt (bF8 S) (8 * S.size) most (8 * S.size + 1) 0 0 [] = r) :
    Calls Tryz.prog 14 #[.string s, .int .i64 (a : Int), .int .i64 (most : Int)] w fun e w' => (∃ l q v, r = .ok (l.map Prod.fst, q) ∧ e = .returned (.tuple #[v, .int .i64 (((q + 7) / 8 : Nat) : Int), .int .i64 0]) ∧ BRow w' w.heap.size v l ∧ q ≤ 8 * S.size ∧ l.length ≤ 8 * S.size ∧ Below w.heap.size w w') ∨ (∃ er, r = .error er ∧ er ≠ 0 ∧ e = .returned (.tuple #[.slice none 0 0, .int .i64 0, .int .i64 (er : Int)]) ∧ Below w.heap.size w w') := by
 obtain ⟨i0, hi, hz0, hz1, hz2⟩ := info_parts Tryz.infoBk
 have hSs : S.size ≤ 100000000 := by
  rw [hS, ByteArray.size_extract]; omega
 have g1 : ¬ (a : Int) < 0 := by omega
 have g2 : ¬ (s.size : Int) < (a : Int) := by omega
 have g3 : ¬ (most : Int) < 0 := by omega
 have g4 : ¬ (65536 : Int) < (most : Int) := by omega
 have g5 : (a : Int) ≤ (s.size : Int) := by omega
 have HOF : Hid (∀ W, Calls Tryz.prog 32 #[.string S] W fun e w' => ∃ g, e = .returned (.pointer (some ⟨g, 0, none⟩)) ∧ qa6 w' g S 0 ∧ W.heap.size ≤ g ∧ Below W.heap.size W w') := fun W => qu0 S W
 have HH : Hid (qbt (bF8 S) (8 * S.size) most (8 * S.size + 1) 0 0 [] = r) := h
 have hS' := hS.symm
 clear h hS
 go_enter Tryz.func14, Tryz.ntmps14
 go_wp2_with fail
 refine (HOF.out w).mono ?_
 rintro e w1 ⟨gx, rfl, hX, hgx, hb1⟩
 have HR0 : Hid (RdAt (w1.alloc (.cells #[.pointer (some ⟨gx, 0, none⟩), .int .i64 (most : Int), .int .i64 0, .pointer none] 89)) w.heap.size w1.heap.size gx S 0 most 0) := q4f most hX hgx hb1.size
 have HB0 : Hid (Below w.heap.size w (w1.alloc (.cells #[.pointer (some ⟨gx, 0, none⟩), .int .i64 (most : Int), .int .i64 0, .pointer none] 89))) := hb1.alloc hb1.size _
 clear HOF hX hgx hb1 g1 g2 g3 g4 g5 hS'
 go_wp2
 generalize World.alloc w1 _ = W1 at *
 generalize w1.heap.size = gr at *
 go_loopw [10] (fun v wr => ∃ (p' o' F' : Nat) (l : List Item), qbt (bF8 S) (8 * S.size) most F' p' o' (l.map Prod.fst) = r ∧ 8 * S.size < p' + F' ∧ p' ≤ 8 * S.size ∧ o' ≤ most ∧ l.length ≤ p' ∧ BRow wr w.heap.size v l ∧ RdAt wr w.heap.size gr gx S p' most o' ∧ Below w.heap.size w wr) (fun v _ => 8 * S.size + 1 - lenV v)
 case atStart => exact ⟨0, 0, _, [], HH.out, by omega, Nat.zero_le _, Nat.zero_le _, Nat.zero_le _, BRow.nil _ _, HR0.out, HB0.out⟩
 case round =>
  clear HH HR0 HB0
  obtain ⟨p', o', F', l, hT, hF', hp', ho', hl, hO, hR, hB⟩ := hrel
  obtain ⟨F2, rfl⟩ : ∃ F2, F' = F2 + 1 := ⟨F' - 1, by omega⟩
  obtain ⟨av, cv, rfl⟩ := qam hO.1
  rw [qbt] at hT
  generalize hbk : blkF (bF8 S) (8 * S.size) most p' o' = bk at hT
  have HBK : Hid (Calls _ _ _ _ _) := qxe w.heap.size gr gx S p' most o' bk wr hR hSs hp' ho' (by omega) hbk
  have HT : Hid (_ = r) := hT
  have HO : Hid (BRow wr w.heap.size (.slice av l.length cv) l) := hO
  have HB : Hid (Below w.heap.size w wr) := hB
  clear hbk hT hO hB hR
  go_wp2_with fail
  refine (Hid.out HBK : Calls _ _ _ _ _).mono ?_
  clear HBK
  rintro e w3 (⟨b, last, q, o, t, va, vl, vc, rfl, rfl, hV, hq, hpq, hom, hR3, hK3, hB3⟩ | ⟨er, bb, kx, t, va, vl, vc, rfl, her, rfl, hK3, hB3⟩)
  · have hB3' : Below w.heap.size w w3 := HB.out.trans hB3
    have hsw : w.heap.size ≤ w3.heap.size := hB3'.size
    have hsr : w.heap.size ≤ wr.heap.size := HB.out.size
    have hA4 : Below w3.heap.size w3 (w3.alloc (.cells #[.int .i64 (b.kind : Int), .string t, .slice va vl vc] 91)) := (Below.refl _ w3).alloc (Nat.le_refl _) _
    have hA5 : Below w3.heap.size w3 ((w3.alloc (.cells #[.int .i64 (b.kind : Int), .string t, .slice va vl vc] 91)).alloc (.cells #[.int .i64 (b.kind : Int), .string t, .slice va vl vc] 91)) := hA4.alloc hA4.size _
    obtain ⟨tt, vv, hx, hy, hz⟩ := hV
    simp only [Value.agg.injEq, Array.mk.injEq, List.cons.injEq, Value.string.injEq, and_true, true_and] at hx
    obtain ⟨rfl, rfl⟩ := hx
    have HI : Hid (qmh ((w3.alloc (.cells #[.int .i64 (b.kind : Int), .string t, .slice va vl vc] 91)).alloc (.cells #[.int .i64 (b.kind : Int), .string t, .slice va vl vc] 91)) w.heap.size (b, t, .slice va vl vc)) := ⟨hy, qf4 (hz.mono hsr) (qbd hA5) (by decide) (by decide)⟩
    have HO5 : Hid (BRow ((w3.alloc (.cells #[.int .i64 (b.kind : Int), .string t, .slice va vl vc] 91)).alloc (.cells #[.int .i64 (b.kind : Int), .string t, .slice va vl vc] 91)) w.heap.size (.slice av l.length cv) l) := HO.out.ks (hK3.trans (qbd hA5))
    have HR5 : Hid (RdAt ((w3.alloc (.cells #[.int .i64 (b.kind : Int), .string t, .slice va vl vc] 91)).alloc (.cells #[.int .i64 (b.kind : Int), .string t, .slice va vl vc] 91)) w.heap.size gr gx S q most o) := hR3.below hA5
    have HB5 : Hid (Below w.heap.size w ((w3.alloc (.cells #[.int .i64 (b.kind : Int), .string t, .slice va vl vc] 91)).alloc (.cells #[.int .i64 (b.kind : Int), .string t, .slice va vl vc] 91))) := hB3'.trans (hA5.mono hsw)
    have h3n := qj2 (w3.alloc (.cells #[.int .i64 (b.kind : Int), .string t, .slice va vl vc] 91)) (.int .i64 (b.kind : Int)) (.string t) (.slice va vl vc) 91
    rw [World.size_alloc] at h3n
    have HN3 : Hid _ := h3n
    have HONE : Hid _ := qj0 (b.kind : Int) t va vl vc
    have HLL : Hid (l.length ≤ 8 * S.size) := by unfold Hid; omega
    clear h3n hy hz hA4 hA5 hB3' hR3 hK3 hB3 HO HB hsr
    go_wp2_with (at_builtin; refine wpList_append_own _ rfl _ _ 42 rfl w.heap.size 91 i0 (.agg #[.int .i64 0, .string ⟨#[]⟩, .slice none 0 0]) 3 48 Tryz.underlying42 hi hz0 hz1 hz2 rfl (by decide) _ _ _ rfl HO5.out.1 ⟨w3.heap.size + 1, 0, none⟩ 1 1 [.int .i64 (b.kind : Int), .string t, .slice va vl vc] rfl rfl HN3.out HONE.out (by have := HLL.out; unfold maxLen; omega) (by have := HLL.out; omega) (by simp; omega) ?_)
    intro v8 w8 hown8 hg8 _
    have hk8 := q00 HO5.out.1 hg8
    have hO8 : BRow w8 w.heap.size v8 (l ++ [(b, t, .slice va vl vc)]) := by
     refine ⟨by rw [qsj, List.length_append]; exact hown8, fun x hx => ?_⟩
     rcases List.mem_append.1 hx with hx | hx
     · exact (HO5.out.2 x hx).k1 hk8
     · rw [List.mem_singleton] at hx; subst hx; exact HI.out.k1 hk8
    have HO8 : Hid (BRow w8 w.heap.size v8 (l ++ [(b, t, .slice va vl vc)])) := hO8
    have hR8 : RdAt w8 w.heap.size gr gx S q most o := HR5.out.k1 hk8 qrw
    have HR8 : Hid (RdAt w8 w.heap.size gr gx S q most o) := hR8
    have HB8 : Hid (Below w.heap.size w w8) := HB5.out.grown hg8 HB5.out.size (fun q hq => (HO5.out.1.lt q hq).1)
    have HT8 : Hid ((if last = 1 then .ok ((l ++ [((b, t, .slice va vl vc) : Item)]).map Prod.fst, q) else qbt (bF8 S) (8 * S.size) most F2 q o ((l ++ [((b, t, .slice va vl vc) : Item)]).map Prod.fst)) = r) := by
     unfold Hid; rw [← HT.out, List.map_append]; rfl
    obtain ⟨a8, c8, rfl⟩ := qam hO8.1
    have d0 := hR8.cell0
    have HP : Hid (Calls _ _ _ _ _) := qvt gx S q w8 hR8.2.2.1
    clear hown8 hg8 hk8 hO8 hR8 HO5 HR5 HB5 HI HN3 HONE HT
    by_cases hlast : last = 1
    · subst hlast
      have HRE : Hid (.ok ((l ++ [((b, t, .slice va vl vc) : Item)]).map Prod.fst, q) = r) := by unfold Hid; rw [← HT8.out, if_pos rfl]
      clear HT8
      have hqi : ((q : Int) + 7) / 8 = (((q + 7) / 8 : Nat) : Int) := by omega
      go_wp2_with fail
      refine (Hid.out HP : Calls _ _ _ _ _).mono ?_
      rintro e w9 ⟨rfl, hw9⟩
      obtain rfl : w8 = w9 := hw9.symm
      clear hw9 HP
      go_wp2
      exact bodyPost_ret (v := .tuple #[.slice a8 (l ++ [((b, t, .slice va vl vc) : Item)]).length c8, .int .i64 (((q + 7) / 8 : Nat) : Int), .int .i64 0]) (by simp [results, Tryz.results14, go_sem]) rfl (.inl ⟨_, _, _, HRE.out.symm, rfl, HO8.out, hq, by rw [List.length_append, List.length_singleton]; omega, HB8.out⟩)
    · have hlf : decide (last = 1) = false := by simpa using hlast
      have HRE : Hid (qbt (bF8 S) (8 * S.size) most F2 q o ((l ++ [((b, t, .slice va vl vc) : Item)]).map Prod.fst) = r) := by unfold Hid; rw [← HT8.out, if_neg hlast]
      clear HT8 HP d0
      go_wp2
      go_roundw
      case rel => exact ⟨q, o, F2, _, HRE.out, by omega, hq, hom, by rw [List.length_append, List.length_singleton]; omega, HO8.out, HR8.out, HB8.out⟩
      case measure => simp [lenV]; have := HLL.out; omega
  · have heri : ((er : Int) != 0) = true := by simpa using her
    have hsr : w.heap.size ≤ w3.heap.size := (HB.out.trans hB3).size
    have HBE : Hid (Below w.heap.size w (w3.alloc (.cells #[.int .i64 kx, .string t, .slice va vl vc] 91))) := (HB.out.trans hB3).alloc hsr _
    have HRE : Hid (.error er = r) := HT.out
    clear hK3 hB3 HT HO HB hsr
    go_wp2
    exact bodyPost_ret (v := .tuple #[.slice none 0 0, .int .i64 0, .int .i64 (er : Int)]) (by simp [results, Tryz.results14, go_sem]) rfl (.inr ⟨er, HRE.out.symm, her, rfl, HBE.out⟩)
def btk (x : Item) : List Tok := tok0 x.2.1 ++ x.1.toks
def jtk (l : List Item) : List Tok := l.flatMap btk
theorem qzn (l : List Item) (k : Nat) (x : Item) (h : l[k]? = some x) : jtk (l.take (k + 1)) = jtk (l.take k) ++ btk x := by
 unfold jtk
 rw [List.take_add_one, h, List.flatMap_append]
 simp
theorem q4m (l : List Item) (k : Nat) : (jtk (l.take k)).length ≤ (jtk l).length := by
 have h : jtk l = jtk (l.take k) ++ jtk (l.drop k) := by
  unfold jtk; rw [← List.flatMap_append, List.take_append_drop]
 rw [h, List.length_append]; omega
theorem qxk : ∀ (l : List Item) (i : Nat) (x : Item), l[i]? = some x → (bcs l)[i * 3]? = some (.int .i64 (x.1.kind : Int)) ∧ (bcs l)[i * 3 + 1]? = some (.string x.2.1) ∧ (bcs l)[i * 3 + 2]? = some x.2.2
 | [], i, x, h => by simp at h
 | y :: l, 0, x, h => by
  simp only [List.getElem?_cons_zero, Option.some.injEq] at h
  subst h
  exact ⟨rfl, rfl, rfl⟩
 | y :: l, i + 1, x, h => by
  simp only [List.getElem?_cons_succ] at h
  obtain ⟨h1, h2, h3⟩ := qxk l i x h
  have e : bcs (y :: l) = [.int .i64 (y.1.kind : Int), .string y.2.1, y.2.2] ++ bcs l := by unfold bcs; rw [List.flatMap_cons]
  rw [e]
  refine ⟨?_, ?_, ?_⟩
  · rw [List.getElem?_append_right (by simp; omega)]; simpa [show (i + 1) * 3 - 3 = i * 3 by omega] using h1
  · rw [List.getElem?_append_right (by simp; omega)]; simpa [show (i + 1) * 3 + 1 - 3 = i * 3 + 1 by omega] using h2
  · rw [List.getElem?_append_right (by simp; omega)]; simpa [show (i + 1) * 3 + 2 - 3 = i * 3 + 2 by omega] using h3
theorem q1q (a b : List Tok) : tcs (a ++ b) = tcs a ++ tcs b := by unfold tcs; rw [List.flatMap_append]
theorem q1o (ts : List Tok) : ∀ u ∈ tcs ts, u.oneCell' = true := by
 intro u hu
 unfold tcs at hu
 obtain ⟨t, _, ht⟩ := List.mem_flatMap.1 hu
 exact qjz _ _ _ u ht
theorem qzo (B : Nat) (v : Value) (l : List Item) (w : World) (hO : BRow w B v l) (hl : (jtk l).length ≤ 1000000) (hll : l.length ≤ 1000000000) :
    Calls Tryz.prog 15 #[v] w fun e w' => e = .returned (.string (bs (expF 9223372036854775807 (jtk l) []).1)) ∧ Below w.heap.size w w' := by
 obtain ⟨i0, hi, hz0, hz1, hz2⟩ := info_parts Tryz.infoTk
 obtain ⟨av, cv, rfl⟩ := qam hO.1
 have HBR : Hid (BRow w B (.slice av l.length cv) l) := hO
 clear hO
 go_enter Tryz.func15, Tryz.ntmps15
 go_wp2
 go_loopw [3, 11] (fun a i wr => ∃ k : Nat, k ≤ l.length ∧ i = .int .i64 (k : Int) ∧ wr.ownsRow w.heap.size 95 3 a (jtk (l.take k)).length (tcs (jtk (l.take k))) ∧ Below w.heap.size w wr) (fun _ i _ => l.length - (intOf i).toNat)
 case atStart => exact ⟨0, by omega, rfl, World.ownsRow_nil _ _ _ _, Below.refl _ _⟩
 case round =>
  obtain ⟨k, hk, rfl, hO, hB⟩ := hrel
  have hsz := hB.size
  by_cases hlt : k < l.length
  · obtain ⟨⟨b, t, tv⟩, hx⟩ : ∃ x, l[k]? = some x := ⟨_, List.getElem?_eq_getElem hlt⟩
    obtain ⟨hbr, hit⟩ := HBR.out
    have hitem := hit _ (List.mem_of_getElem? hx)
    obtain ⟨hby, hto⟩ := hitem
    simp only at hby hto
    obtain ⟨ta, tc, rfl⟩ := qam hto
    obtain ⟨g, cap, hform, hgB, hcap, hgs⟩ := qch hbr (by omega)
    simp only [Value.slice.injEq, true_and] at hform
    obtain ⟨rfl, rfl⟩ := hform
    obtain ⟨c0, c1, c2⟩ := qxk l k _ hx
    rw [← hbr.cellAt (k * 3) (by omega), ← hB.cell (p := ⟨g, k * 3, none⟩) hgs] at c0
    rw [← hbr.cellAt (k * 3 + 1) (by omega), ← hB.cell (p := ⟨g, k * 3 + 1, none⟩) hgs] at c1
    rw [← hbr.cellAt (k * 3 + 2) (by omega), ← hB.cell (p := ⟨g, k * 3 + 2, none⟩) hgs] at c2
    simp only at c0 c1 c2
    have HTO : Hid (w.ownsRow B 95 3 (.slice ta b.toks.length tc) b.toks.length (tcs b.toks)) := hto
    have HJ : Hid (jtk (l.take (k + 1)) = jtk (l.take k) ++ (tok0 t ++ b.toks)) := qzn l k _ hx
    have hjl : (jtk (l.take k)).length + t.size + b.toks.length ≤ 1000000 := by
     have h1 := q4m l (k + 1)
     rw [HJ.out, List.length_append, List.length_append, qcx] at h1
     omega
    have hki : (k : Int) < (l.length : Int) := by omega
    have hki0 : (0 : Int) ≤ (k : Int) := by omega
    obtain ⟨ao, co, rfl⟩ := qam hO
    have hA : Below wr.heap.size wr (wr.alloc (.cells #[.int .i64 (b.kind : Int), .string t, .slice ta b.toks.length tc] 91)) := (Below.refl _ wr).alloc (Nat.le_refl _) _
    have HO0 : Hid ((wr.alloc (.cells #[.int .i64 (b.kind : Int), .string t, .slice ta b.toks.length tc] 91)).ownsRow w.heap.size 95 3 (.slice ao (jtk (l.take k)).length co) (jtk (l.take k)).length (tcs (jtk (l.take k)))) := hO.alloc _
    have HB0 : Hid (Below w.heap.size w (wr.alloc (.cells #[.int .i64 (b.kind : Int), .string t, .slice ta b.toks.length tc] 91))) := hB.trans (hA.mono hsz)
    have HN0 : Hid ((wr.alloc (.cells #[.int .i64 (b.kind : Int), .string t, .slice ta b.toks.length tc] 91)).heap[wr.heap.size]? = some (.cells #[.int .i64 (b.kind : Int), .string t, .slice ta b.toks.length tc] 91 (0, 0))) := heap_alloc_new wr _
    clear hbr hit hby hto hx hO hB hA
    generalize hJl : jtk (l.take k) = J at *
    go_wp2
    clear c0 c1 c2
    generalize World.alloc wr _ = W0 at *
    generalize wr.heap.size = gb at *
    go_loopw [3, 18] (fun a i wq => ∃ j : Nat, j ≤ t.size ∧ i = .int .i64 (j : Int) ∧ wq.ownsRow w.heap.size 95 3 a (J.length + j) (tcs (J ++ (tok0 t).take j)) ∧ wq.heap[gb]? = some (.cells #[.int .i64 (b.kind : Int), .string t, .slice ta b.toks.length tc] 91 (0, 0)) ∧ Below w.heap.size w wq) (fun _ i _ => t.size - (intOf i).toNat)
    case atStart => exact ⟨0, by omega, rfl, by rw [List.take_zero, List.append_nil]; exact HO0.out, HN0.out, HB0.out⟩
    case round =>
     clear HO0 HN0 HB0
     obtain ⟨j, hj, rfl, hO, hN, hB⟩ := hrel
     obtain ⟨d0, d1, d2, _, _, _⟩ := qaf hN
     have hszq := hB.size
     by_cases hjt : j < t.size
     · have HTK : Hid ((tok0 t).take (j + 1) = (tok0 t).take j ++ [⟨byt t j, 0, 0⟩]) := qh7 t j hjt
       have hbe := qn3 t j hjt
       have h3n := qj1 wr ⟨byt t j, 0, 0⟩ 95
       simp only at h3n
       have HN3 : Hid _ := h3n
       have hji : (j : Int) < (t.size : Int) := by omega
       have hji0 : (0 : Int) ≤ (j : Int) := by omega
       have HNQ : Hid (wr.heap[gb]? = some (.cells #[.int .i64 (b.kind : Int), .string t, .slice ta b.toks.length tc] 91 (0, 0))) := hN
       clear h3n hN
       go_wp2_with (at_builtin; refine wpList_append_own _ rfl _ _ 33 rfl w.heap.size 95 i0 (.agg #[.int .u8 0, .int .i64 0, .int .i64 0]) 3 24 Tryz.underlying33 hi hz0 hz1 hz2 rfl (by decide) _ _ _ rfl (hO.alloc _) ⟨wr.heap.size, 0, none⟩ 1 1 [.int .u8 (byt t j : Int), .int .i64 0, .int .i64 0] rfl rfl HN3.out ?c2 ?c3 ?c4 ?c5 ?_)
       case c2 => intro y hy; simp at hy; rcases hy with rfl | rfl <;> rfl
       case c3 => unfold maxLen; omega
       case c4 => omega
       case c5 => rw [World.size_alloc]; omega
       intro v8 w8 hown hg _
       have HO8 : Hid (w8.ownsRow w.heap.size 95 3 v8 (J.length + (j + 1)) (tcs (J ++ (tok0 t).take (j + 1)))) := by unfold Hid; rw [HTK.out, ← List.append_assoc, qdx]; exact hown
       have HB8 : Hid (Below w.heap.size w w8) := (hB.alloc hszq _).grown hg (by rw [World.size_alloc]; omega) (fun q hq => (hO.lt q hq).1)
       have HN8 : Hid (w8.heap[gb]? = some (.cells #[.int .i64 (b.kind : Int), .string t, .slice ta b.toks.length tc] 91 (0, 0))) := (q00 (hO.alloc _) hg).2 _ _ _ _ ((qco _ _).2 _ _ _ _ HNQ.out (by decide) (by decide)) (by decide)
       clear hown hg hO hB HNQ d0 d1 d2
       go_wp2
       go_roundw
       case rel => exact ⟨j + 1, by omega, by go_num, HO8.out, HN8.out, HB8.out⟩
       case measure => simp [intOf]; omega
     · obtain rfl : j = t.size := by omega
       rw [List.take_of_length_le (by rw [qcx]; exact Nat.le_refl _)] at hO
       rcases HTO.out.2 with ⟨hv, hz⟩ | ⟨gt, ct, cur, hv, hgt, hh, hcc, hcm, hcs, htk⟩
       · have htl : b.toks = [] := List.eq_nil_of_length_eq_zero hz
         simp only [Value.slice.injEq] at hv
         obtain ⟨rfl, _, rfl⟩ := hv
         rw [hz] at d2
         obtain ⟨a9, c9, rfl⟩ := qam hO
         have HO9 : Hid (wr.ownsRow w.heap.size 95 3 (.slice a9 (J.length + t.size) c9) (jtk (l.take (k + 1))).length (tcs (jtk (l.take (k + 1))))) := by
          unfold Hid; rw [HJ.out, htl, List.append_nil, List.length_append, qcx]; exact hO
         have HB9 : Hid (Below w.heap.size w wr) := hB
         clear hN hB
         go_wp2_with (at_builtin; refine wpList_append_own_none rfl _ _ 33 rfl w.heap.size 95 i0 3 Tryz.underlying33 hi _ _ _ rfl hO rfl ?_)
         clear hO d0 d1 d2
         go_wp2
         go_roundw
         case rel => exact ⟨k + 1, by omega, by go_num, HO9.out, HB9.out⟩
         case measure => simp [intOf]; omega
       · simp only [Value.slice.injEq, true_and] at hv
         obtain ⟨rfl, rfl⟩ := hv
         have HNW : Hid (∀ i u, (tcs b.toks)[i]? = some u → wr.cell? ((⟨gt, 0, none⟩ : Addr).add i) = some u) := by
          intro i u hu
          have hc := HTO.out.cells (g := gt) rfl i u hu
          have hadd : (⟨gt, 0, none⟩ : Addr).add i = ⟨gt, i, none⟩ := by unfold Addr.add; split <;> simp_all
          rw [hadd] at hc ⊢
          rw [hB.cell (p := ⟨gt, i, none⟩) (Array.getElem?_eq_some_iff.1 hh).1]; exact hc
         have HTL : Hid ((tcs b.toks).length = b.toks.length * 3) := q1p _
         have HB9 : Hid (Below w.heap.size w wr) := hB
         clear hN hB hh hcs htk hcc hcm hgt
         go_wp2_with (at_builtin; refine wpList_append_own _ rfl _ _ 33 rfl w.heap.size 95 i0 (.agg #[.int .u8 0, .int .i64 0, .int .i64 0]) 3 24 Tryz.underlying33 hi hz0 hz1 hz2 rfl (by decide) _ _ _ rfl hO ⟨gt, 0, none⟩ b.toks.length _ (tcs b.toks) rfl HTL.out HNW.out (q1o _) ?c3 ?c4 ?c5 ?_)
         case c3 => unfold maxLen; omega
         case c4 => omega
         case c5 => omega
         intro v8 w8 hown hg _
         have HO8 : Hid (w8.ownsRow w.heap.size 95 3 v8 (jtk (l.take (k + 1))).length (tcs (jtk (l.take (k + 1))))) := by
          unfold Hid; rw [HJ.out, ← List.append_assoc, q1q, List.length_append, List.length_append, qcx]; exact hown
         have HB8 : Hid (Below w.heap.size w w8) := HB9.out.grown hg (by omega) (fun q hq => (hO.lt q hq).1)
         clear hown hg hO HB9 d0 d1 d2
         go_wp2
         go_roundw
         case rel => exact ⟨k + 1, by omega, by go_num, HO8.out, HB8.out⟩
         case measure => simp [intOf]; omega
  · obtain rfl : k = l.length := by omega
    rw [List.take_length] at hO
    have HE : Hid (Calls _ _ _ _ _) := qtv _ (jtk l) 9223372036854775807 wr (TR.own hO) (by omega) (by decide) (by decide)
    have HB : Hid (Below w.heap.size w wr) := hB
    obtain ⟨ao, co, rfl⟩ := qam hO
    clear hO hB
    go_wp2_with fail
    refine (Hid.out HE : Calls _ _ _ _ _).mono ?_
    rintro e w9 ⟨rfl, hb9⟩
    have HB9 : Hid (Below w.heap.size w w9) := HB.out.trans (hb9.mono hsz)
    clear HE hb9
    go_wp2
    go_ret
    exact ⟨rfl, HB9.out⟩
end Go.Proofs.YthkppipdflmekaaGreat
