/- Contract of the reader's dynamicCodes. -/
import Derived.Test.YthkppipdflmekaaQInfW
import Derived.Deep.RegionHeld3
import Derived.Deep.DeepCutAuto
namespace Go.Proofs.Ythkppipdflmekaa
open Go.RowKit
attribute [local go_sem ↓] Go.wp_at_zero Go.wp_at_succ
set_option linter.unusedVariables false

theorem dyn_short {f : Nat → Bool} {L p : Nat} (h : L < p + 14) : dynF f L p = .error 6 := by
  unfold dynF tkF
  by_cases h1 : L < p + 5
  · rw [if_pos h1]
  · rw [if_neg h1]
    simp only
    by_cases h2 : L < p + 5 + 5
    · rw [if_pos h2]
    · rw [if_neg h2]
      simp only
      rw [if_pos (by omega)]
/-- What follows the counts. -/
def dynT (f : Nat → Bool) (L p a b c : Nat) : Except Nat (List Nat × List Nat × Nat) :=
  if 29 < a ∨ 29 < b then .error 3 else if L < p + 14 + 3 * (c + 4) then .error 6 else
        if fitE (fstL f (p + 14) (c + 4)) = false then .error 3 else
        match rowF (fstL f (p + 14) (c + 4)) f L (a + b + 258) (L + 1) (p + 14 + 3 * (c + 4)) [] with
        | .error e => .error e
        | .ok (row, p1) => if row.getD 256 0 = 0 then .error 3 else if fitE (row.take (a + 257)) = false ∨ fitE (row.drop (a + 257)) = false then .error 3 else .ok (row.take (a + 257), row.drop (a + 257), p1)
theorem dyn_long {f : Nat → Bool} {L p : Nat} (h : p + 14 ≤ L) : dynF f L p = dynT f L p (takeN (fun i => f (p + i)) 5) (takeN (fun i => f (p + 5 + i)) 5) (takeN (fun i => f (p + 10 + i)) 4) := by
  unfold dynF tkF
  rw [if_neg (by omega), if_neg (by omega), if_neg (by omega)]; rfl
theorem RdAt.cnt {w : World} {B gr gx g : Nat} {s : ByteArray} {p most out : Nat} {cA cB : Array Value} (h : RdAt w B gr gx s p most out) (hg : w.heap[g]? = some (.cells cA 117 (0, 0))) (i : Nat) (v : Value) (hB : cA.setIfInBounds i v = cB) : RdAt (w.setCell ⟨g, i, none⟩ v) B gr gx s p most out ∧ (w.setCell ⟨g, i, none⟩ v).heap[g]? = some (.cells cB 117 (0, 0)) := by
  have h1 : w.grownBy (w.setCell ⟨g, i, none⟩ v) (some g) := gset (grefl w _) i _
  refine ⟨h.k1 (k1_grown h1 hg) (by unfold Foreign; decide), ?_⟩
  rw [heap_setCell_same _ _ _ _ _ _ hg, hB]
/-- The counts so far. -/
def cntA (a b c k : Nat) : Array Value := #[.int .i64 ((if 0 < k then a else 0 : Nat) : Int), .int .i64 ((if 1 < k then b else 0 : Nat) : Int), .int .i64 ((if 2 < k then c else 0 : Nat) : Int)]
def offK (k : Nat) : Nat := if k = 0 then 0 else if k = 1 then 5 else if k = 2 then 10 else 14
theorem foreignA : Foreign 117 := by unfold Foreign; decide
theorem idx0 (W : World) : (Instr.index 117 (.agg #[.int .i64 5, .int .i64 5, .int .i64 4]) (.int .i64 0)).run Try.prog W = .ok (.int .i64 5) W := by kernel_rfl
theorem idx1 (W : World) : (Instr.index 117 (.agg #[.int .i64 5, .int .i64 5, .int .i64 4]) (.int .i64 1)).run Try.prog W = .ok (.int .i64 5) W := by kernel_rfl
theorem idx2 (W : World) : (Instr.index 117 (.agg #[.int .i64 5, .int .i64 5, .int .i64 4]) (.int .i64 2)).run Try.prog W = .ok (.int .i64 4) W := by kernel_rfl
theorem IO_take {w : World} {B n m : Nat} {g cap : Nat} {row : List Nat} (h : w.ownsRow B 3 1 (.slice (some ⟨g, 0, none⟩) n cap) n (nc row)) (hg : g < w.heap.size) (hm : m ≤ n) (hn : row.length = n) : IQ w (.slice (some ⟨g, 0, none⟩) m cap) (zz (row.take m)) := by
  refine ⟨g, 0, cap, by rw [zz_len, List.length_take, Nat.min_eq_left (by omega)], hg, fun i hi => ?_⟩
  rw [zz_len, List.length_take] at hi
  rw [Nat.zero_add, h.cellAt i (by omega), nc_at row i (by omega), zz_at]
  congr 3
  rw [List.getD_eq_getElem?_getD, List.getD_eq_getElem?_getD, List.getElem?_take, if_pos (by omega)]
theorem IO_drop {w : World} {B n m c2 : Nat} {g cap : Nat} {row : List Nat} (h : w.ownsRow B 3 1 (.slice (some ⟨g, 0, none⟩) n cap) n (nc row)) (hg : g < w.heap.size) (hm : m ≤ n) (hn : row.length = n) : IQ w (.slice (some ⟨g, m, none⟩) (n - m) c2) (zz (row.drop m)) := by
  refine ⟨g, m, c2, by rw [zz_len, List.length_drop, hn], hg, fun i hi => ?_⟩
  rw [zz_len, List.length_drop] at hi
  rw [h.cellAt (m + i) (by omega), nc_at row (m + i) (by omega), zz_at]
  congr 3
  rw [List.getD_eq_getElem?_getD, List.getD_eq_getElem?_getD, List.getElem?_drop]
theorem Try.undI : Try.prog.underlying 63 = some (.slice (Try.prog.elem 63)) := by kernel_rfl
theorem Try.szI (W : World) : (sizeOf (Try.prog.elem 63)).run Try.prog W = .ok 1 W := by kernel_rfl
theorem cut_hi {g N cap m : Nat} (h : m ≤ cap) (W : World) : (Instr.slice 63 (.slice (some ⟨g, 0, none⟩) N cap) none (some (.int .i64 (m : Int))) none).run Try.prog W = .ok (.slice (some ⟨g, 0, none⟩) m cap) W := by
  rw [run_slice_h (ht := Try.undI) (h0 := by omega) (h2 := by omega), Try.szI]
  simp [Result.andThen, sliced, Addr.add]
theorem cut_lo {g N cap m : Nat} (h : m ≤ N) (hm : m < cap) (W : World) : (Instr.slice 63 (.slice (some ⟨g, 0, none⟩) N cap) (some (.int .i64 (m : Int))) none none).run Try.prog W = .ok (.slice (some ⟨g, m, none⟩) (N - m) (cap - m)) W := by
  have hne : ¬ cap = m := by omega
  rw [run_slice_l (ht := Try.undI) (h0 := by omega) (h1 := by omega), Try.szI]
  simp [Result.andThen, sliced, Addr.add, hne]
  omega
set_option maxRecDepth 100000 in
set_option maxHeartbeats 4000000 in
theorem dynamic_any (B gr gx : Nat) (s : ByteArray) (p most out : Nat) (r : Except Nat (List Nat × List Nat × Nat)) (w : World) (hR : RdAt w B gr gx s p most out) (hs : s.size ≤ 100000000) (hp : p ≤ 8 * s.size) (h : dynF (bF8 s) (8 * s.size) p = r) :
    Calls Try.prog 48 #[.pointer (some ⟨gr, 0, none⟩)] w fun e w' => (∃ ls ds q gc, r = .ok (ls, ds, q) ∧ e = .returned (.tuple #[.pointer (some ⟨gc, 0, none⟩), .int .i64 0]) ∧ CodesAt w' gc ls ds ∧ Lens ls ∧ Lens ds ∧ q ≤ 8 * s.size ∧ p ≤ q ∧ RdAt w' B gr gx s q most out ∧ KS w w' ∧ Below B w w') ∨ (∃ er, r = .error er ∧ er ≠ 0 ∧ e = .returned (.tuple #[.pointer none, .int .i64 (er : Int)]) ∧ KS w w' ∧ Below B w w') := by
  have hB0 := hR.size
  obtain ⟨a, ha⟩ : ∃ a, a = takeN (fun i => bF8 s (p + i)) 5 := ⟨_, rfl⟩
  obtain ⟨b, hb⟩ : ∃ b, b = takeN (fun i => bF8 s (p + 5 + i)) 5 := ⟨_, rfl⟩
  obtain ⟨c, hc⟩ : ∃ c, c = takeN (fun i => bF8 s (p + 10 + i)) 4 := ⟨_, rfl⟩
  have ha32 : a < 32 := by rw [ha]; exact takeN_lt _ 5
  have hb32 : b < 32 := by rw [hb]; exact takeN_lt _ 5
  have hc16 : c < 16 := by rw [hc]; exact takeN_lt _ 4
  have HDS : Hid (8 * s.size < p + 14 → r = .error 6) := fun h' => by rw [← h]; exact dyn_short h'
  have HDL : Hid (p + 14 ≤ 8 * s.size → r = dynT (bF8 s) (8 * s.size) p a b c) := fun h' => by rw [← h, dyn_long h', ← ha, ← hb, ← hc]
  have HA : Hid (a = takeN (fun i => bF8 s (p + i)) 5) := ha
  have HBb : Hid (b = takeN (fun i => bF8 s (p + 5 + i)) 5) := hb
  have HCc : Hid (c = takeN (fun i => bF8 s (p + 10 + i)) 4) := hc
  have hAl : Below w.heap.size w (w.alloc (.cells #[.int .i64 0, .int .i64 0, .int .i64 0] 117)) := (Below.refl _ w).alloc (Nat.le_refl _) _
  have HAl : Hid (Below w.heap.size w (w.alloc (.cells #[.int .i64 0, .int .i64 0, .int .i64 0] 117))) := hAl
  have HR1 : Hid (RdAt (w.alloc (.cells #[.int .i64 0, .int .i64 0, .int .i64 0] 117)) B gr gx s p most out) := hR.below hAl
  have HG1 : Hid ((w.alloc (.cells #[.int .i64 0, .int .i64 0, .int .i64 0] 117)).heap[w.heap.size]? = some (.cells (cntA a b c 0) 117 (0, 0))) := heap_alloc_new w _
  clear hR h ha hb hc hAl
  go_enter Try.func48, Try.ntmps48
  go_wp2
  generalize World.alloc w _ = W1 at *
  go_loopw [16] (fun i wr => ∃ k : Nat, k ≤ 3 ∧ i = .int .i64 (k : Int) ∧ p + offK k ≤ 8 * s.size ∧ wr.heap[w.heap.size]? = some (.cells (cntA a b c k) 117 (0, 0)) ∧ RdAt wr B gr gx s (p + offK k) most out ∧ KS w wr ∧ Below B w wr) (fun i _ => 3 - (intOf i).toNat)
  case atStart => exact ⟨0, by omega, rfl, hp, HG1.out, HR1.out, ks_below HAl.out, HAl.out.mono hB0⟩
  case round =>
    clear HAl HR1 HG1
    obtain ⟨k, hk, rfl, hpk, hG, hR, hK, hB⟩ := hrel
    have HK : Hid (KS w wr) := hK
    have HB : Hid (Below B w wr) := hB
    have HR : Hid (RdAt wr B gr gx s (p + offK k) most out) := hR
    have HG : Hid (wr.heap[w.heap.size]? = some (.cells (cntA a b c k) 117 (0, 0))) := hG
    clear hK hB hR hG
    rcases (show k = 0 ∨ k = 1 ∨ k = 2 ∨ k = 3 by omega) with rfl | rfl | rfl | rfl
    · clear hk
      have hpk' : p + 0 ≤ 8 * s.size := hpk
      have hidx := idx0
      have HR0 : Hid (RdAt wr B gr gx s (p + 0) most out) := HR.out
      cases ht : tkF (bF8 s) (8 * s.size) (p + 0) 5 with
      | error er =>
        obtain ⟨hsh, rfl⟩ := tkF_err ht
        have HT : Hid (Calls _ _ _ _ _) := rtake_err B gr gx s (p + 0) most out 5 6 wr HR0.out hs (by decide) hpk' ht
        clear ht
        go_wp2_with fail
        refine (Hid.out HT : Calls _ _ _ _ _).mono ?_
        rintro e w3 ⟨rfl, hK3, hB3⟩
        have HK3 : Hid (KS w w3) := HK.out.trans hK3
        have HB3 : Hid (Below B w w3) := HB.out.trans hB3
        clear hK3 hB3 HT
        go_wp2
        go_ret2
        exact .inr ⟨6, HDS.out (by omega), by decide, rfl, HK3.out, HB3.out⟩
      | ok x =>
        obtain ⟨hle, hxv⟩ := tkF_ok ht
        have HT : Hid (Calls _ _ _ _ _) := rtake_ok B gr gx s (p + 0) most out 5 x wr HR0.out hs (by decide) ht
        obtain rfl : a = x := by rw [hxv, HA.out]; rfl
        clear ht hxv
        go_wp2_with fail
        refine (Hid.out HT : Calls _ _ _ _ _).mono ?_
        rintro e w3 ⟨rfl, hR3, hK3, hB3⟩
        have hG3 := hK3.2 _ _ _ _ HG.out (by decide) (by decide)
        obtain ⟨hR4, hG4⟩ := hR3.cnt hG3 0 (.int .i64 (a : Int)) (cB := cntA a b c 1) rfl
        have cy : w3.cell? ⟨w.heap.size, 0, none⟩ = some (.int .i64 0) := by rw [cell_of_row _ _ _ _ _ _ hG3]; rfl
        have fy : w3.frozen? ⟨w.heap.size, 0, none⟩ = false := frozen_of_row _ _ _ _ _ hG3
        have HR4 : Hid _ := hR4
        have HG4 : Hid _ := hG4
        have HK4 : Hid (KS w (w3.setCell ⟨w.heap.size, 0, none⟩ (.int .i64 (a : Int)))) := ks_new (HK.out.trans hK3) (gset (grefl w3 _) 0 _) (Nat.le_refl _)
        have HB4 : Hid (Below B w (w3.setCell ⟨w.heap.size, 0, none⟩ (.int .i64 (a : Int)))) := (HB.out.trans hB3).setCell hB0 _
        clear hR3 hK3 hB3 hG3 hR4 hG4 HT HR HG HK HB HR0
        go_wp2
        go_roundw
        case rel => exact ⟨1, by decide, by go_num, by show p + 5 ≤ _; omega, HG4.out, HR4.out, HK4.out, HB4.out⟩
        case measure => simp [intOf]
    · clear hk
      have hpk' : p + 5 ≤ 8 * s.size := hpk
      have hidx := idx1
      have HR0 : Hid (RdAt wr B gr gx s (p + 5) most out) := HR.out
      cases ht : tkF (bF8 s) (8 * s.size) (p + 5) 5 with
      | error er =>
        obtain ⟨hsh, rfl⟩ := tkF_err ht
        have HT : Hid (Calls _ _ _ _ _) := rtake_err B gr gx s (p + 5) most out 5 6 wr HR0.out hs (by decide) hpk' ht
        clear ht
        go_wp2_with fail
        refine (Hid.out HT : Calls _ _ _ _ _).mono ?_
        rintro e w3 ⟨rfl, hK3, hB3⟩
        have HK3 : Hid (KS w w3) := HK.out.trans hK3
        have HB3 : Hid (Below B w w3) := HB.out.trans hB3
        clear hK3 hB3 HT
        go_wp2
        go_ret2
        exact .inr ⟨6, HDS.out (by omega), by decide, rfl, HK3.out, HB3.out⟩
      | ok x =>
        obtain ⟨hle, hxv⟩ := tkF_ok ht
        have HT : Hid (Calls _ _ _ _ _) := rtake_ok B gr gx s (p + 5) most out 5 x wr HR0.out hs (by decide) ht
        obtain rfl : b = x := by rw [hxv, HBb.out]
        clear ht hxv
        go_wp2_with fail
        refine (Hid.out HT : Calls _ _ _ _ _).mono ?_
        rintro e w3 ⟨rfl, hR3, hK3, hB3⟩
        have hG3 := hK3.2 _ _ _ _ HG.out (by decide) (by decide)
        obtain ⟨hR4, hG4⟩ := hR3.cnt hG3 1 (.int .i64 (b : Int)) (cB := cntA a b c 2) rfl
        have cy : w3.cell? ⟨w.heap.size, 1, none⟩ = some (.int .i64 0) := by rw [cell_of_row _ _ _ _ _ _ hG3]; rfl
        have fy : w3.frozen? ⟨w.heap.size, 1, none⟩ = false := frozen_of_row _ _ _ _ _ hG3
        have HR4 : Hid _ := hR4
        have HG4 : Hid _ := hG4
        have HK4 : Hid (KS w (w3.setCell ⟨w.heap.size, 1, none⟩ (.int .i64 (b : Int)))) := ks_new (HK.out.trans hK3) (gset (grefl w3 _) 1 _) (Nat.le_refl _)
        have HB4 : Hid (Below B w (w3.setCell ⟨w.heap.size, 1, none⟩ (.int .i64 (b : Int)))) := (HB.out.trans hB3).setCell hB0 _
        clear hR3 hK3 hB3 hG3 hR4 hG4 HT HR HG HK HB HR0
        go_wp2
        go_roundw
        case rel => exact ⟨2, by decide, by go_num, by show p + 10 ≤ _; omega, HG4.out, HR4.out, HK4.out, HB4.out⟩
        case measure => simp [intOf]
    · clear hk
      have hpk' : p + 10 ≤ 8 * s.size := hpk
      have hidx := idx2
      have HR0 : Hid (RdAt wr B gr gx s (p + 10) most out) := HR.out
      cases ht : tkF (bF8 s) (8 * s.size) (p + 10) 4 with
      | error er =>
        obtain ⟨hsh, rfl⟩ := tkF_err ht
        have HT : Hid (Calls _ _ _ _ _) := rtake_err B gr gx s (p + 10) most out 4 6 wr HR0.out hs (by decide) hpk' ht
        clear ht
        go_wp2_with fail
        refine (Hid.out HT : Calls _ _ _ _ _).mono ?_
        rintro e w3 ⟨rfl, hK3, hB3⟩
        have HK3 : Hid (KS w w3) := HK.out.trans hK3
        have HB3 : Hid (Below B w w3) := HB.out.trans hB3
        clear hK3 hB3 HT
        go_wp2
        go_ret2
        exact .inr ⟨6, HDS.out (by omega), by decide, rfl, HK3.out, HB3.out⟩
      | ok x =>
        obtain ⟨hle, hxv⟩ := tkF_ok ht
        have HT : Hid (Calls _ _ _ _ _) := rtake_ok B gr gx s (p + 10) most out 4 x wr HR0.out hs (by decide) ht
        obtain rfl : c = x := by rw [hxv, HCc.out]
        clear ht hxv
        go_wp2_with fail
        refine (Hid.out HT : Calls _ _ _ _ _).mono ?_
        rintro e w3 ⟨rfl, hR3, hK3, hB3⟩
        have hG3 := hK3.2 _ _ _ _ HG.out (by decide) (by decide)
        obtain ⟨hR4, hG4⟩ := hR3.cnt hG3 2 (.int .i64 (c : Int)) (cB := cntA a b c 3) rfl
        have cy : w3.cell? ⟨w.heap.size, 2, none⟩ = some (.int .i64 0) := by rw [cell_of_row _ _ _ _ _ _ hG3]; rfl
        have fy : w3.frozen? ⟨w.heap.size, 2, none⟩ = false := frozen_of_row _ _ _ _ _ hG3
        have HR4 : Hid _ := hR4
        have HG4 : Hid _ := hG4
        have HK4 : Hid (KS w (w3.setCell ⟨w.heap.size, 2, none⟩ (.int .i64 (c : Int)))) := ks_new (HK.out.trans hK3) (gset (grefl w3 _) 2 _) (Nat.le_refl _)
        have HB4 : Hid (Below B w (w3.setCell ⟨w.heap.size, 2, none⟩ (.int .i64 (c : Int)))) := (HB.out.trans hB3).setCell hB0 _
        clear hR3 hK3 hB3 hG3 hR4 hG4 HT HR HG HK HB HR0
        go_wp2
        go_roundw
        case rel => exact ⟨3, by decide, by go_num, by show p + 14 ≤ _; omega, HG4.out, HR4.out, HK4.out, HB4.out⟩
        case measure => simp [intOf]
    · have hp14 : p + 14 ≤ 8 * s.size := hpk
      have hr := HDL.out hp14
      have HR3 : Hid (RdAt wr B gr gx s (p + 14) most out) := HR.out
      have c0 : wr.cell? ⟨w.heap.size, 0, none⟩ = some (.int .i64 (a : Int)) := by rw [cell_of_row _ _ _ _ _ _ HG.out]; rfl
      have c1 : wr.cell? ⟨w.heap.size, 1, none⟩ = some (.int .i64 (b : Int)) := by rw [cell_of_row _ _ _ _ _ _ HG.out]; rfl
      have c2 : wr.cell? ⟨w.heap.size, 2, none⟩ = some (.int .i64 (c : Int)) := by rw [cell_of_row _ _ _ _ _ _ HG.out]; rfl
      unfold dynT at hr
      clear hk hpk HDS HDL HA HBb HCc HR HG
      have HRR : Hid (r = _) := hr
      clear hr
      go_wp2
      go_quiet (fail)
      have HR4 : Hid (RdAt (wr.drewN nq) B gr gx s (p + 14) most out) := HR3.out.drewN nq
      have HK4 : Hid (KS w (wr.drewN nq)) := HK.out.trans (ks_drewN _ _)
      have HB4 : Hid (Below B w (wr.drewN nq)) := below_drewN HB.out nq
      clear c0 c1 c2 HR3 HK HB
      generalize wr.drewN nq = W4 at *
      by_cases hbad : 29 < a ∨ 29 < b
      · have HRE : Hid (r = .error 3) := by unfold Hid; rw [HRR.out, if_pos hbad]
        clear HRR
        by_cases h1 : 29 < a
        · have h1i : (286 : Int) < (a : Int) + 257 := by omega
          go_wp2
          go_ret2
          exact .inr ⟨3, HRE.out, by decide, rfl, HK4.out, HB4.out⟩
        · have h1i : ¬ (286 : Int) < (a : Int) + 257 := by omega
          have h2i : (30 : Int) < (b : Int) + 1 := by omega
          go_wp2
          go_ret2
          exact .inr ⟨3, HRE.out, by decide, rfl, HK4.out, HB4.out⟩
      · obtain ⟨c4, hc4⟩ : ∃ c4, c + 4 = c4 := ⟨_, rfl⟩
        obtain ⟨N, hN⟩ : ∃ N, a + b + 258 = N := ⟨_, rfl⟩
        obtain ⟨sy, hsy⟩ : ∃ sy, a + 257 = sy := ⟨_, rfl⟩
        have HRE : Hid (r = if 8 * s.size < p + 14 + 3 * c4 then .error 6 else if fitE (fstL (bF8 s) (p + 14) c4) = false then .error 3 else match rowF (fstL (bF8 s) (p + 14) c4) (bF8 s) (8 * s.size) N (8 * s.size + 1) (p + 14 + 3 * c4) [] with
          | .error e => .error e
          | .ok (row, p1) => if row.getD 256 0 = 0 then .error 3 else if fitE (row.take sy) = false ∨ fitE (row.drop sy) = false then .error 3 else .ok (row.take sy, row.drop sy, p1)) := by unfold Hid; rw [HRR.out, if_neg hbad, hc4, hN, hsy]
        have h1i : ¬ (286 : Int) < (sy : Int) := by omega
        have h2i : ¬ (30 : Int) < (b : Int) + 1 := by omega
        have hci : (c : Int) + 4 = (c4 : Int) := by omega
        have hsi : (a : Int) + 257 = (sy : Int) := by omega
        have hc19 : c4 ≤ 19 := by omega
        have hsN : sy ≤ N := by omega
        have hs257 : 257 ≤ sy := by omega
        have hN320 : N ≤ 320 := by omega
        have HSB : Hid (sy + b + 1 = N) := by unfold Hid; omega
        have HFI : Hid (Calls _ _ _ _ _) := first_any B gr gx s (p + 14) most out c4 W4 HR4.out hs hp14 (by omega)
        clear HRR hbad hc4 hN hsy
        go_wp2_with fail
        refine (Hid.out HFI : Calls _ _ _ _ _).mono ?_
        clear HFI
        rintro e w5 (⟨hsh, rfl, hK5, hB5⟩ | ⟨hlg, hft, rfl, hK5, hB5⟩ | ⟨hlg, hft, B1, t, rfl, hP5, hR5, hK5, hB5⟩)
        · have HK5 : Hid (KS w w5) := HK4.out.trans hK5
          have HB5 : Hid (Below B w w5) := HB4.out.trans hB5
          clear hK5 hB5
          go_wp2
          go_ret2
          exact .inr ⟨6, by rw [HRE.out, if_pos hsh], by decide, rfl, HK5.out, HB5.out⟩
        · have HK5 : Hid (KS w w5) := HK4.out.trans hK5
          have HB5 : Hid (Below B w w5) := HB4.out.trans hB5
          clear hK5 hB5
          have HRF : Hid (r = .error 3) := by unfold Hid; rw [HRE.out, if_neg (by omega), if_pos hft]
          clear HRE hft
          go_wp2
          go_ret2
          exact .inr ⟨3, HRF.out, by decide, rfl, HK5.out, HB5.out⟩
        · have HK5 : Hid (KS w w5) := HK4.out.trans hK5
          have HB5 : Hid (Below B w w5) := HB4.out.trans hB5
          have HRF : Hid (r = match rowF (fstL (bF8 s) (p + 14) c4) (bF8 s) (8 * s.size) N (8 * s.size + 1) (p + 14 + 3 * c4) [] with
            | .error e => .error e
            | .ok (row, p1) => if row.getD 256 0 = 0 then .error 3 else if fitE (row.take sy) = false ∨ fitE (row.drop sy) = false then .error 3 else .ok (row.take sy, row.drop sy, p1)) := by unfold Hid; rw [HRE.out, if_neg (by omega), if_neg (by rw [hft]; decide)]
          have hLe := (fitE_ok hft).2
          have HR5 : Hid (RdAt w5 B gr gx s (p + 14 + 3 * c4) most out) := hR5
          rw [← fstL_len (bF8 s) (p + 14) c4] at hP5
          clear hK5 hB5 HRE HK4 HB4 HR4 hft hR5
          generalize hro : rowF (fstL (bF8 s) (p + 14) c4) (bF8 s) (8 * s.size) N (8 * s.size + 1) (p + 14 + 3 * c4) [] = ro at HRF
          have HRW : Hid (Calls _ _ _ _ _) := row_any B gr gx B1 t s (p + 14 + 3 * c4) most out N (8 * s.size + 1) _ ro w5 HR5.out hP5 hLe hs hlg (by omega) (by omega) hro
          clear hro hP5 hLe
          have hni : (sy : Int) + ((b : Int) + 1) = (N : Int) := by have := HSB.out; omega
          go_wp2_with fail
          refine (Hid.out HRW : Calls _ _ _ _ _).mono ?_
          clear HRW
          rintro e w6 (⟨row, q, v, rfl, rfl, hrl, hO6, hq1, hq2, hR6, hK6, hB6⟩ | ⟨er, rfl, her, rfl, hK6, hB6⟩)
          · obtain ⟨g, cap, rfl, hgb, hcap, hgs⟩ := own_frm0 hO6 (by omega)
            have HK6 : Hid (KS w w6) := HK5.out.trans hK6
            have HB6 : Hid (Below B w w6) := HB5.out.trans hB6
            have HR6 : Hid (RdAt w6 B gr gx s q most out) := hR6
            obtain ⟨x, hx⟩ : ∃ x, row.getD 256 0 = x := ⟨_, rfl⟩
            have cx : w6.cell? ⟨g, 256, none⟩ = some (.int .i64 (x : Int)) := by rw [hO6.cellAt 256 (by omega), nc_at row 256 (by omega), hx]
            have HRG : Hid (r = if x = 0 then .error 3 else if fitE (row.take sy) = false ∨ fitE (row.drop sy) = false then .error 3 else .ok (row.take sy, row.drop sy, q)) := by unfold Hid; rw [HRF.out]; simp only; rw [hx]
            have HI1 : Hid (IQ w6 (.slice (some ⟨g, 0, none⟩) sy cap) (zz (row.take sy))) := IO_take hO6 hgs hsN hrl
            have HI2 : Hid (IQ w6 (.slice (some ⟨g, sy, none⟩) (N - sy) (cap - sy)) (zz (row.drop sy))) := IO_drop hO6 hgs hsN hrl
            have hN256 : 256 < N := by omega
            have hN256i : (256 : Int) < (N : Int) := by omega
            clear hK6 hB6 hR6 hx hO6 HRF HK5 HB5 HR5
            by_cases hx0 : x = 0
            · subst hx0
              go_wp2
              go_ret2
              exact .inr ⟨3, by rw [HRG.out]; rfl, by decide, rfl, HK6.out, HB6.out⟩
            · have hx0i : ((x : Int) == 0) = false := by simpa using hx0
              have HRH : Hid (r = if fitE (row.take sy) = false ∨ fitE (row.drop sy) = false then .error 3 else .ok (row.take sy, row.drop sy, q)) := by unfold Hid; rw [HRG.out, if_neg hx0]
              clear HRG
              go_wp2
              have s1 := fun W => cut_hi (g := g) (N := N) (cap := cap) (m := sy) (by omega) W
              have s2 := fun W => cut_lo (g := g) (N := N) (cap := cap) (m := sy) (by omega) (by have := HSB.out; omega) W
              have HL1 : Hid ((row.take sy).length ≤ 400) := by unfold Hid; rw [List.length_take]; omega
              have HL2 : Hid ((row.drop sy).length ≤ 400) := by unfold Hid; rw [List.length_drop]; omega
              go_cut [2, 3] (fun x y wx => (∃ gc, r = .ok (row.take sy, row.drop sy, q) ∧ x = .pointer (some ⟨gc, 0, none⟩) ∧ y = .int .i64 0 ∧ fitE (row.take sy) = true ∧ fitE (row.drop sy) = true ∧ CodesAt wx gc (row.take sy) (row.drop sy) ∧ Below w6.heap.size w6 wx) ∨ (r = .error 3 ∧ x = .pointer none ∧ y = .int .i64 3 ∧ Below w6.heap.size w6 wx))
              case first =>
                have HJ1 : Hid (IQ w6.drew (.slice (some ⟨g, 0, none⟩) sy cap) (zz (row.take sy))) := HI1.out.below (Below.refl _ w6).drew
                have HJ2 : Hid (IQ w6.drew (.slice (some ⟨g, sy, none⟩) (N - sy) (cap - sy)) (zz (row.drop sy))) := HI2.out.below (Below.refl _ w6).drew
                have HBD : Hid (Below w6.heap.size w6 w6.drew) := (Below.refl _ w6).drew
                by_cases hbd : fitE (row.take sy) = false ∨ fitE (row.drop sy) = false
                · have HRI : Hid (r = .error 3) := by unfold Hid; rw [HRH.out, if_pos hbd]
                  have HPL : Hid (Calls _ _ _ _ _) := plant_ill _ _ _ _ w6.drew HJ1.out HJ2.out HL1.out HL2.out hbd
                  clear HRH hbd
                  go_region_held3 (fun _ => True) (trivial) ((go_at_call 53; refine (Hid.out HPL : Calls _ _ _ _ _).mono ?_; rintro e w9 ⟨rfl, hb9⟩))
                  go_wp2
                  go_meet
                  exact .inr ⟨HRI.out, rfl, rfl, HBD.out.trans hb9⟩
                · have hb1 : fitE (row.take sy) = true := by cases hh : fitE (row.take sy); exact absurd (.inl hh) hbd; rfl
                  have hb2 : fitE (row.drop sy) = true := by cases hh : fitE (row.drop sy); exact absurd (.inr hh) hbd; rfl
                  have HRI : Hid (r = .ok (row.take sy, row.drop sy, q)) := by unfold Hid; rw [HRH.out, if_neg hbd]
                  have HPL : Hid (Calls _ _ _ _ _) := plant_good _ _ _ _ w6.drew HJ1.out HJ2.out hb1 hb2
                  have HF1 : Hid (fitE (row.take sy) = true) := hb1
                  have HF2 : Hid (fitE (row.drop sy) = true) := hb2
                  clear HRH hbd hb1 hb2
                  go_region_held3 (fun _ => True) (trivial) ((go_at_call 53; refine (Hid.out HPL : Calls _ _ _ _ _).mono ?_; rintro e w9 ⟨gc, rfl, hc9, hb9⟩))
                  go_wp2
                  go_meet
                  exact .inl ⟨gc, HRI.out, rfl, rfl, HF1.out, HF2.out, hc9, HBD.out.trans hb9⟩
              case rest =>
                rcases hcut with ⟨gc, hr, rfl, rfl, hf1, hf2, hC, hb9⟩ | ⟨hr, rfl, rfl, hb9⟩
                · have HE : Hid (_ ∧ _ ∧ _ ∧ _ ∧ _) := And.intro hr (And.intro hf1 (And.intro hf2 (And.intro hC hb9)))
                  clear hr hf1 hf2 hC hb9
                  go_wp2
                  go_ret2
                  obtain ⟨hr, hf1, hf2, hC, hb9⟩ := HE.out
                  exact .inl ⟨_, _, _, _, hr, rfl, hC, (fitE_ok hf1).2, (fitE_ok hf2).2, hq1, by omega, HR6.out.below hb9, HK6.out.trans (ks_below hb9), HB6.out.trans (hb9.mono HR6.out.size)⟩
                · have HE : Hid (_ ∧ _) := And.intro hr hb9
                  clear hr hb9
                  go_wp2
                  go_ret2
                  obtain ⟨hr, hb9⟩ := HE.out
                  exact .inr ⟨3, hr, by decide, rfl, HK6.out.trans (ks_below hb9), HB6.out.trans (hb9.mono HR6.out.size)⟩
          · have HK6 : Hid (KS w w6) := HK5.out.trans hK6
            have HB6 : Hid (Below B w w6) := HB5.out.trans hB6
            have heri : ((er : Int) != 0) = true := by simpa using her
            clear hK6 hB6
            go_wp2
            go_ret2
            exact .inr ⟨er, HRF.out, her, rfl, HK6.out, HB6.out⟩
end Go.Proofs.Ythkppipdflmekaa
