/- Contract of the reader's block. -/
import Derived.Test.YtibnkpfginffhacInfC
namespace Go.Proofs.Ytibnkpfginffhac
open Go.RowKit
set_option linter.unusedVariables false

set_option maxRecDepth 100000 in
set_option maxHeartbeats 4000000 in
theorem block_any (B gr gx : Nat) (s : ByteArray) (p most out : Nat) (r : Except Nat (Blk × Nat × Nat × Nat)) (w : World) (hR : RdAt w B gr gx s p most out) (hs : s.size ≤ 100000000) (hp : p ≤ 8 * s.size) (ho : out ≤ most) (hm : most ≤ 70000) (h : blkF (bF8 s) (8 * s.size) most p out = r) :
    Calls Try.prog 47 #[.pointer (some ⟨gr, 0, none⟩)] w fun e w' => (∃ b last q o t va vl vc, r = .ok (b, last, q, o) ∧ e = .returned (.tuple #[.agg #[.int .i64 (b.kind : Int), .string t, .slice va vl vc], .bool (decide (last = 1)), .int .i64 0]) ∧ BV w' w.heap.size (.agg #[.int .i64 (b.kind : Int), .string t, .slice va vl vc]) b ∧ q ≤ 8 * s.size ∧ p < q ∧ o ≤ most ∧ RdAt w' B gr gx s q most o ∧ KS w w' ∧ Below B w w') ∨ (∃ er bb kx t va vl vc, r = .error er ∧ er ≠ 0 ∧ e = .returned (.tuple #[.agg #[.int .i64 kx, .string t, .slice va vl vc], .bool bb, .int .i64 (er : Int)]) ∧ KS w w' ∧ Below B w w') := by
  have hBw := hR.size
  have hA : Below w.heap.size w (w.alloc (.cells #[.int .i64 0, .string ⟨#[]⟩, .slice none 0 0] 107)) := (Below.refl _ w).alloc (Nat.le_refl _) _
  have HR0 : Hid (RdAt (w.alloc (.cells #[.int .i64 0, .string ⟨#[]⟩, .slice none 0 0] 107)) B gr gx s p most out) := hR.below hA
  have HK0 : Hid (KS w (w.alloc (.cells #[.int .i64 0, .string ⟨#[]⟩, .slice none 0 0] 107))) := ks_below hA
  have HB0 : Hid (Below B w (w.alloc (.cells #[.int .i64 0, .string ⟨#[]⟩, .slice none 0 0] 107))) := hA.mono hBw
  have HN0 : Hid ((w.alloc (.cells #[.int .i64 0, .string ⟨#[]⟩, .slice none 0 0] 107)).heap[w.heap.size]? = some (.cells #[.int .i64 0, .string ⟨#[]⟩, .slice none 0 0] 107 (0, 0))) := heap_alloc_new w _
  have HSZ : Hid (w.heap.size ≤ (w.alloc (.cells #[.int .i64 0, .string ⟨#[]⟩, .slice none 0 0] 107)).heap.size) := hA.size
  rw [blk_bd] at h
  cases ht : tkF (bF8 s) (8 * s.size) p 1 with
  | error er =>
    have HT : Hid (Calls _ _ _ _ _) := rtake_err B gr gx s p most out 1 er _ HR0.out hs (by decide) hp ht
    rw [ht] at h
    have HRE : Hid (.error er = r) := h
    obtain ⟨_, rfl⟩ := tkF_err ht
    clear h ht hR hA
    go_enter Try.func47, Try.ntmps47
    go_wp2_with fail
    refine (Hid.out HT : Calls _ _ _ _ _).mono ?_
    rintro e w1 ⟨rfl, hK1, hB1⟩
    have hN1 := hK1.2 _ _ _ _ HN0.out (by decide) (by decide)
    obtain ⟨r0, r1, r2, f0, f1, f2⟩ := tok_cell hN1
    have HO : Hid _ := blk_outE (Nat.le_refl w.heap.size) (HK0.out.trans hK1) (HB0.out.trans hB1) hBw (.int .i64 0) (.string ⟨#[]⟩) (.slice none 0 0)
    clear hK1 hB1 hN1 HT HK0 HB0 HN0 HR0 HSZ
    go_wp2
    exact bodyPost_ret (v := .tuple #[.agg #[.int .i64 0, .string ⟨#[]⟩, .slice none 0 0], .bool false, .int .i64 6]) (by simp [results, Try.results47, go_sem, *]) rfl (.inr ⟨6, _, _, _, _, _, _, HRE.out.symm, by decide, rfl, HO.out.1, HO.out.2⟩)
  | ok last =>
    have HT : Hid (Calls _ _ _ _ _) := rtake_ok B gr gx s p most out 1 last _ HR0.out hs (by decide) ht
    simp only [ht] at h
    obtain ⟨hle, hlv⟩ := tkF_ok ht
    have hl2 : last < 2 := by rw [hlv]; exact takeN_lt _ 1
    clear ht hR hA hlv
    have HH : Hid (_ = r) := h
    clear h
    go_enter Try.func47, Try.ntmps47
    go_wp2_with fail
    refine (Hid.out HT : Calls _ _ _ _ _).mono ?_
    rintro e w1 ⟨rfl, hR1, hK1, hB1⟩
    have HR1 : Hid (RdAt w1 B gr gx s (p + 1) most out) := hR1
    have HK1 : Hid (KS w w1) := HK0.out.trans hK1
    have HB1 : Hid (Below B w w1) := HB0.out.trans hB1
    have HN1 : Hid (w1.heap[w.heap.size]? = some (.cells #[.int .i64 0, .string ⟨#[]⟩, .slice none 0 0] 107 (0, 0))) := hK1.2 _ _ _ _ HN0.out (by decide) (by decide)
    clear hR1 hK1 hB1 HT HK0 HB0 HN0 HR0 HSZ
    cases ht : tkF (bF8 s) (8 * s.size) (p + 1) 2 with
    | error er =>
      have HT : Hid (Calls _ _ _ _ _) := rtake_err B gr gx s (p + 1) most out 2 er w1 HR1.out hs (by decide) (by omega) ht
      have h := HH.out
      simp only [ht] at h
      have HRE : Hid (.error er = r) := h
      obtain ⟨_, rfl⟩ := tkF_err ht
      clear h ht HH
      go_wp2_with fail
      refine (Hid.out HT : Calls _ _ _ _ _).mono ?_
      rintro e w2 ⟨rfl, hK2, hB2⟩
      have hN2 := hK2.2 _ _ _ _ HN1.out (by decide) (by decide)
      obtain ⟨r0, r1, r2, f0, f1, f2⟩ := tok_cell hN2
      have HO : Hid _ := blk_outE (Nat.le_refl w.heap.size) (HK1.out.trans hK2) (HB1.out.trans hB2) hBw (.int .i64 0) (.string ⟨#[]⟩) (.slice none 0 0)
      clear hK2 hB2 hN2 HT HK1 HB1 HN1 HR1
      go_wp2
      exact bodyPost_ret (v := .tuple #[.agg #[.int .i64 0, .string ⟨#[]⟩, .slice none 0 0], .bool false, .int .i64 6]) (by simp [results, Try.results47, go_sem, *]) rfl (.inr ⟨6, _, _, _, _, _, _, HRE.out.symm, by decide, rfl, HO.out.1, HO.out.2⟩)
    | ok kind =>
      have HT : Hid (Calls _ _ _ _ _) := rtake_ok B gr gx s (p + 1) most out 2 kind w1 HR1.out hs (by decide) ht
      have h := HH.out
      simp only [ht] at h
      have hle2 := (tkF_ok ht).1
      generalize hbd : bdF (bF8 s) (8 * s.size) most (p + 3) out kind = bd at h
      have HH2 : Hid (_ = r) := h
      have HBD : Hid (bdF (bF8 s) (8 * s.size) most (p + 3) out kind = bd) := hbd
      clear h ht HH hbd
      go_wp2_with fail
      refine (Hid.out HT : Calls _ _ _ _ _).mono ?_
      rintro e w2 ⟨rfl, hR2, hK2, hB2⟩
      have HBO : Hid (Calls _ _ _ _ _) := body_any B gr gx kind s (p + 3) most out bd w2 hR2 hs (by omega) ho hm HBD.out
      have HK2 : Hid (KS w w2) := HK1.out.trans hK2
      have HB2 : Hid (Below B w w2) := HB1.out.trans hB2
      have HN2 : Hid (w2.heap[w.heap.size]? = some (.cells #[.int .i64 0, .string ⟨#[]⟩, .slice none 0 0] 107 (0, 0))) := hK2.2 _ _ _ _ HN1.out (by decide) (by decide)
      have HS2 : Hid (w.heap.size < w2.heap.size) := (Array.getElem?_eq_some_iff.1 HN2.out).1
      clear hR2 hK2 hB2 HT HK1 HB1 HN1 HR1 HBD
      go_wp2_with fail
      refine (Hid.out HBO : Calls _ _ _ _ _).mono ?_
      rintro e w3 (⟨b, q, o, t, va, vl, vc, rfl, rfl, hV, hq, hpq, hom, hR3, hK3, hB3⟩ | ⟨er, kx, t, va, vl, vc, rfl, her, rfl, hK3, hB3⟩)
      · have hN3 := hK3.2 _ _ _ _ HN2.out (by decide) (by decide)
        have hA4 : Below w3.heap.size w3 (w3.alloc (.cells #[.int .i64 (b.kind : Int), .string t, .slice va vl vc] 107)) := (Below.refl _ w3).alloc (Nat.le_refl _) _
        have hN4 : (w3.alloc (.cells #[.int .i64 (b.kind : Int), .string t, .slice va vl vc] 107)).heap[w.heap.size]? = some (.cells #[.int .i64 0, .string ⟨#[]⟩, .slice none 0 0] 107 (0, 0)) := (ks_below hA4).2 _ _ _ _ hN3 (by decide) (by decide)
        have hB3s : B ≤ w3.heap.size := hR3.size
        have HO : Hid _ := blk_out (hR3.below hA4) (Nat.le_refl _) hN4 ((HK2.out.trans hK3).trans (ks_below hA4)) ((HB2.out.trans hB3).trans (hA4.mono hB3s)) hBw (.int .i64 (b.kind : Int)) (.string t) (.slice va vl vc)
        obtain ⟨tt, v, hx, hy, hz⟩ := hV
        have HV : Hid (BV (putB (w3.alloc (.cells #[.int .i64 (b.kind : Int), .string t, .slice va vl vc] 107)) w.heap.size (.int .i64 (b.kind : Int)) (.string t) (.slice va vl vc)) w.heap.size (.agg #[.int .i64 (b.kind : Int), .string t, .slice va vl vc]) b) :=
          ⟨tt, v, hx, hy, blk_own hN4 ((own_ks hz (ks_below hA4) (by decide) (by decide)).mono (Nat.le_of_lt HS2.out)) _ _ _⟩
        obtain ⟨r0, r1, r2, f0, f1, f2⟩ := tok_cell hN4
        have hlb : ((last : Int) == 1) = decide (last = 1) := by
          rw [Bool.eq_iff_iff, decide_eq_true_eq, beq_iff_eq]; omega
        clear hN3 hA4 hN4 hx hy hz hR3 hK3 hB3 HK2 HB2 HN2 HS2 HBO hB3s
        go_wp2
        exact bodyPost_ret (v := .tuple #[.agg #[.int .i64 (b.kind : Int), .string t, .slice va vl vc], .bool (decide (last = 1)), .int .i64 0]) (by simp [results, Try.results47, go_sem, *]) rfl (.inl ⟨_, _, _, _, _, _, _, _, HH2.out.symm, rfl, HV.out, hq, by omega, hom, HO.out.1, HO.out.2.1, HO.out.2.2⟩)
      · have hN3 := hK3.2 _ _ _ _ HN2.out (by decide) (by decide)
        have hA4 : Below w3.heap.size w3 (w3.alloc (.cells #[.int .i64 kx, .string t, .slice va vl vc] 107)) := (Below.refl _ w3).alloc (Nat.le_refl _) _
        have hN4 : (w3.alloc (.cells #[.int .i64 kx, .string t, .slice va vl vc] 107)).heap[w.heap.size]? = some (.cells #[.int .i64 0, .string ⟨#[]⟩, .slice none 0 0] 107 (0, 0)) := (ks_below hA4).2 _ _ _ _ hN3 (by decide) (by decide)
        have hB3s : B ≤ w3.heap.size := by have := HS2.out; have := hK3.1; omega
        have HO : Hid _ := blk_outE (Nat.le_refl w.heap.size) ((HK2.out.trans hK3).trans (ks_below hA4)) ((HB2.out.trans hB3).trans (hA4.mono hB3s)) hBw (.int .i64 kx) (.string t) (.slice va vl vc)
        obtain ⟨r0, r1, r2, f0, f1, f2⟩ := tok_cell hN4
        have hlb : ((last : Int) == 1) = decide (last = 1) := by
          rw [Bool.eq_iff_iff, decide_eq_true_eq, beq_iff_eq]; omega
        clear hN3 hA4 hN4 hK3 hB3 HK2 HB2 HN2 HS2 HBO hB3s
        go_wp2
        exact bodyPost_ret (v := .tuple #[.agg #[.int .i64 kx, .string t, .slice va vl vc], .bool (decide (last = 1)), .int .i64 (er : Int)]) (by simp [results, Try.results47, go_sem, *]) rfl (.inr ⟨er, _, _, _, _, _, _, HH2.out.symm, her, rfl, HO.out.1, HO.out.2⟩)
end Go.Proofs.Ytibnkpfginffhac
