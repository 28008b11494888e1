/- Contracts of the reader's codesOf and stored. -/
import Derived.Test.YthkppipdflmekaaGreatQDCat
import Derived.Deep.RegionHeld3
import Derived.Deep.DeepCutAuto
set_option maxRecDepth 100000
set_option maxHeartbeats 4000000
namespace Go.Proofs.YthkppipdflmekaaGreat
open Go.RowKit
attribute [local go_sem ↓] Go.wp_at_zero Go.wp_at_succ
set_option linter.unusedVariables false
theorem qnt {f : Nat → Bool} {L p : Nat} (h : L < p + 14) : dynF f L p = .error 6 := by
 unfold dynF tkF
 by_cases h1 : L < p + 5
 · rw [if_pos h1]
 · rw [if_neg h1]
   simp only
   by_cases h2 : L < p + 5 + 5
   · rw [if_pos h2]
   · rw [if_neg h2]
     simp only
     rw [if_pos (by omega)]
def dynT (f : Nat → Bool) (L p a b c : Nat) : Except Nat (List Nat × List Nat × Nat) :=
 if 29 < a ∨ 29 < b then .error 3 else if L < p + 14 + 3 * (c + 4) then .error 6 else
       if fitE (fstL f (p + 14) (c + 4)) = false then .error 3 else
       match rowF (fstL f (p + 14) (c + 4)) f L (a + b + 258) (L + 1) (p + 14 + 3 * (c + 4)) [] with
       | .error e => .error e
       | .ok (row, p1) => if row.getD 256 0 = 0 then .error 3 else if fitE (row.take (a + 257)) = false ∨ fitE (row.drop (a + 257)) = false then .error 3 else .ok (row.take (a + 257), row.drop (a + 257), p1)
theorem qr7 {f : Nat → Bool} {L p : Nat} (h : p + 14 ≤ L) : dynF f L p = dynT f L p (qal (fun i => f (p + i)) 5) (qal (fun i => f (p + 5 + i)) 5) (qal (fun i => f (p + 10 + i)) 4) := by
 unfold dynF tkF
 rw [if_neg (by omega), if_neg (by omega), if_neg (by omega)]; rfl
theorem RdAt.cnt {w : World} {B gr gx g : Nat} {s : ByteArray} {p most out : Nat} {cA cB : Array Value} (h : RdAt w B gr gx s p most out) (hg : w.heap[g]? = some (.cells cA 203 (0, 0))) (i : Nat) (v : Value) (hB : cA.setIfInBounds i v = cB) : RdAt (w.setCell ⟨g, i, none⟩ v) B gr gx s p most out ∧ (w.setCell ⟨g, i, none⟩ v).heap[g]? = some (.cells cB 203 (0, 0)) := by
 have h1 : w.grownBy (w.setCell ⟨g, i, none⟩ v) (some g) := gset (qcj w _) i _
 refine ⟨h.k1 (qf7 h1 hg) (by unfold qdo; decide), ?_⟩
 rw [heap_setCell_same _ _ _ _ _ _ hg, hB]
def cntA (a b c k : Nat) : Array Value := #[.int .i64 ((if 0 < k then a else 0 : Nat) : Int), .int .i64 ((if 1 < k then b else 0 : Nat) : Int), .int .i64 ((if 2 < k then c else 0 : Nat) : Int)]
def offK (k : Nat) : Nat := if k = 0 then 0 else if k = 1 then 5 else if k = 2 then 10 else 14
theorem idx0 (W : World) : (Instr.index 203 (.agg #[.int .i64 5, .int .i64 5, .int .i64 4]) (.int .i64 0)).run Tryz.prog W = .ok (.int .i64 5) W := by kernel_rfl
theorem idx1 (W : World) : (Instr.index 203 (.agg #[.int .i64 5, .int .i64 5, .int .i64 4]) (.int .i64 1)).run Tryz.prog W = .ok (.int .i64 5) W := by kernel_rfl
theorem idx2 (W : World) : (Instr.index 203 (.agg #[.int .i64 5, .int .i64 5, .int .i64 4]) (.int .i64 2)).run Tryz.prog W = .ok (.int .i64 4) W := by kernel_rfl
theorem q3y {w : World} {B n m : Nat} {g cap : Nat} {row : List Nat} (h : w.ownsRow B 3 1 (.slice (some ⟨g, 0, none⟩) n cap) n (nc row)) (hg : g < w.heap.size) (hm : m ≤ n) (hn : row.length = n) : IQ w (.slice (some ⟨g, 0, none⟩) m cap) (zz (row.take m)) := by
 refine ⟨g, 0, cap, by rw [qa4, List.length_take, Nat.min_eq_left (by omega)], hg, fun i hi => ?_⟩
 rw [qa4, List.length_take] at hi
 rw [Nat.zero_add, h.cellAt i (by omega), qlp row i (by omega), qmi]
 congr 3
 rw [List.getD_eq_getElem?_getD, List.getD_eq_getElem?_getD, List.getElem?_take, if_pos (by omega)]
theorem q3z {w : World} {B n m c2 : Nat} {g cap : Nat} {row : List Nat} (h : w.ownsRow B 3 1 (.slice (some ⟨g, 0, none⟩) n cap) n (nc row)) (hg : g < w.heap.size) (hm : m ≤ n) (hn : row.length = n) : IQ w (.slice (some ⟨g, m, none⟩) (n - m) c2) (zz (row.drop m)) := by
 refine ⟨g, m, c2, by rw [qa4, List.length_drop, hn], hg, fun i hi => ?_⟩
 rw [qa4, List.length_drop] at hi
 rw [h.cellAt (m + i) (by omega), qlp row (m + i) (by omega), qmi]
 congr 3
 rw [List.getD_eq_getElem?_getD, List.getD_eq_getElem?_getD, List.getElem?_drop]
theorem Tryz.undI : Tryz.prog.underlying 39 = some (.slice (Tryz.prog.elem 39)) := by kernel_rfl
theorem Tryz.szI (W : World) : (sizeOf (Tryz.prog.elem 39)).run Tryz.prog W = .ok 1 W := by kernel_rfl
theorem q09 {g N cap m : Nat} (h : m ≤ cap) (W : World) : (Instr.slice 39 (.slice (some ⟨g, 0, none⟩) N cap) none (some (.int .i64 (m : Int))) none).run Tryz.prog W = .ok (.slice (some ⟨g, 0, none⟩) m cap) W := by
 rw [run_slice_h (ht := Tryz.undI) (h0 := by omega) (h2 := by omega), Tryz.szI]
 simp [Result.andThen, sliced, Addr.add]
theorem q08 {g N cap m : Nat} (h : m ≤ N) (hm : m < cap) (W : World) : (Instr.slice 39 (.slice (some ⟨g, 0, none⟩) N cap) (some (.int .i64 (m : Int))) none none).run Tryz.prog W = .ok (.slice (some ⟨g, m, none⟩) (N - m) (cap - m)) W := by
 have hne : ¬ cap = m := by omega
 rw [run_slice_l (ht := Tryz.undI) (h0 := by omega) (h1 := by omega), Tryz.szI]
 simp [Result.andThen, sliced, Addr.add, hne]
 omega
theorem qpm (B gr gx : Nat) (s : ByteArray) (p most out : Nat) (r : Except Nat (List Nat × List Nat × Nat)) (w : World) (hR : RdAt w B gr gx s p most out) (hs : s.size ≤ 100000000) (hp : p ≤ 8 * s.size) (h : dynF (bF8 s) (8 * s.size) p = r) :
    Calls Tryz.prog 103 #[.pointer (some ⟨gr, 0, none⟩)] w fun e w' => (∃ ls ds q gc, r = .ok (ls, ds, q) ∧ e = .returned (.tuple #[.pointer (some ⟨gc, 0, none⟩), .int .i64 0]) ∧ qbl w' gc ls ds ∧ Lens ls ∧ Lens ds ∧ q ≤ 8 * s.size ∧ p ≤ q ∧ RdAt w' B gr gx s q most out ∧ KS w w' ∧ Below B w w') ∨ (∃ er, r = .error er ∧ er ≠ 0 ∧ e = .returned (.tuple #[.pointer none, .int .i64 (er : Int)]) ∧ KS w w' ∧ Below B w w') := by
 have hB0 := hR.size
 obtain ⟨a, ha⟩ : ∃ a, a = qal (fun i => bF8 s (p + i)) 5 := ⟨_, rfl⟩
 obtain ⟨b, hb⟩ : ∃ b, b = qal (fun i => bF8 s (p + 5 + i)) 5 := ⟨_, rfl⟩
 obtain ⟨c, hc⟩ : ∃ c, c = qal (fun i => bF8 s (p + 10 + i)) 4 := ⟨_, rfl⟩
 have ha32 : a < 32 := by rw [ha]; exact qaw _ 5
 have hb32 : b < 32 := by rw [hb]; exact qaw _ 5
 have hc16 : c < 16 := by rw [hc]; exact qaw _ 4
 have HDS : Hid (8 * s.size < p + 14 → r = .error 6) := fun h' => by rw [← h]; exact qnt h'
 have HDL : Hid (p + 14 ≤ 8 * s.size → r = dynT (bF8 s) (8 * s.size) p a b c) := fun h' => by rw [← h, qr7 h', ← ha, ← hb, ← hc]
 have HA : Hid (a = qal (fun i => bF8 s (p + i)) 5) := ha
 have HBb : Hid (b = qal (fun i => bF8 s (p + 5 + i)) 5) := hb
 have HCc : Hid (c = qal (fun i => bF8 s (p + 10 + i)) 4) := hc
 have hAl : Below w.heap.size w (w.alloc (.cells #[.int .i64 0, .int .i64 0, .int .i64 0] 203)) := (Below.refl _ w).alloc (Nat.le_refl _) _
 have HAl : Hid (Below w.heap.size w (w.alloc (.cells #[.int .i64 0, .int .i64 0, .int .i64 0] 203))) := hAl
 have HR1 : Hid (RdAt (w.alloc (.cells #[.int .i64 0, .int .i64 0, .int .i64 0] 203)) B gr gx s p most out) := hR.below hAl
 have HG1 : Hid ((w.alloc (.cells #[.int .i64 0, .int .i64 0, .int .i64 0] 203)).heap[w.heap.size]? = some (.cells (cntA a b c 0) 203 (0, 0))) := heap_alloc_new w _
 clear hR h ha hb hc hAl
 go_enter Tryz.func103, Tryz.ntmps103
 go_wp2
 generalize World.alloc w _ = W1 at *
 go_loopw [16] (fun i wr => ∃ k : Nat, k ≤ 3 ∧ i = .int .i64 (k : Int) ∧ p + offK k ≤ 8 * s.size ∧ wr.heap[w.heap.size]? = some (.cells (cntA a b c k) 203 (0, 0)) ∧ RdAt wr B gr gx s (p + offK k) most out ∧ KS w wr ∧ Below B w wr) (fun i _ => 3 - (intOf i).toNat)
 case atStart => exact ⟨0, by omega, rfl, hp, HG1.out, HR1.out, qbd HAl.out, HAl.out.mono hB0⟩
 case round =>
  clear HAl HR1 HG1
  obtain ⟨k, hk, rfl, hpk, hG, hR, hK, hB⟩ := hrel
  have HK : Hid (KS w wr) := hK
  have HB : Hid (Below B w wr) := hB
  have HR : Hid (RdAt wr B gr gx s (p + offK k) most out) := hR
  have HG : Hid (wr.heap[w.heap.size]? = some (.cells (cntA a b c k) 203 (0, 0))) := hG
  clear hK hB hR hG
  rcases (show k = 0 ∨ k = 1 ∨ k = 2 ∨ k = 3 by omega) with rfl | rfl | rfl | rfl
  · clear hk
    have hpk' : p + 0 ≤ 8 * s.size := hpk
    have hidx := idx0
    have HR0 : Hid (RdAt wr B gr gx s (p + 0) most out) := HR.out
    cases ht : tkF (bF8 s) (8 * s.size) (p + 0) 5 with
    | error er =>
     obtain ⟨hsh, rfl⟩ := qcu ht
     have HT : Hid (Calls _ _ _ _ _) := qcb B gr gx s (p + 0) most out 5 6 wr HR0.out hs (by decide) hpk' ht
     clear ht
     go_wp2_with fail
     refine (Hid.out HT : Calls _ _ _ _ _).mono ?_
     rintro e w3 ⟨rfl, hK3, hB3⟩
     have HK3 : Hid (KS w w3) := HK.out.trans hK3
     have HB3 : Hid (Below B w w3) := HB.out.trans hB3
     clear hK3 hB3 HT
     go_wp2
     go_ret2
     exact .inr ⟨6, HDS.out (by omega), by decide, rfl, HK3.out, HB3.out⟩
    | ok x =>
     obtain ⟨hle, hxv⟩ := qcg ht
     have HT : Hid (Calls _ _ _ _ _) := qcn B gr gx s (p + 0) most out 5 x wr HR0.out hs (by decide) ht
     obtain rfl : a = x := by rw [hxv, HA.out]; rfl
     clear ht hxv
     go_wp2_with fail
     refine (Hid.out HT : Calls _ _ _ _ _).mono ?_
     rintro e w3 ⟨rfl, hR3, hK3, hB3⟩
     have hG3 := hK3.2 _ _ _ _ HG.out (by decide) (by decide)
     obtain ⟨hR4, hG4⟩ := hR3.cnt hG3 0 (.int .i64 (a : Int)) (cB := cntA a b c 1) rfl
     have cy : w3.cell? ⟨w.heap.size, 0, none⟩ = some (.int .i64 0) := by rw [cell_of_row _ _ _ _ _ _ hG3]; rfl
     have fy : w3.frozen? ⟨w.heap.size, 0, none⟩ = false := frozen_of_row _ _ _ _ _ hG3
     have HR4 : Hid _ := hR4
     have HG4 : Hid _ := hG4
     have HK4 : Hid (KS w (w3.setCell ⟨w.heap.size, 0, none⟩ (.int .i64 (a : Int)))) := qg8 (HK.out.trans hK3) (gset (qcj w3 _) 0 _) (Nat.le_refl _)
     have HB4 : Hid (Below B w (w3.setCell ⟨w.heap.size, 0, none⟩ (.int .i64 (a : Int)))) := (HB.out.trans hB3).setCell hB0 _
     clear hR3 hK3 hB3 hG3 hR4 hG4 HT HR HG HK HB HR0
     go_wp2
     go_roundw
     case rel => exact ⟨1, by decide, by go_num, by show p + 5 ≤ _; omega, HG4.out, HR4.out, HK4.out, HB4.out⟩
     case measure => simp [intOf]
  · clear hk
    have hpk' : p + 5 ≤ 8 * s.size := hpk
    have hidx := idx1
    have HR0 : Hid (RdAt wr B gr gx s (p + 5) most out) := HR.out
    cases ht : tkF (bF8 s) (8 * s.size) (p + 5) 5 with
    | error er =>
     obtain ⟨hsh, rfl⟩ := qcu ht
     have HT : Hid (Calls _ _ _ _ _) := qcb B gr gx s (p + 5) most out 5 6 wr HR0.out hs (by decide) hpk' ht
     clear ht
     go_wp2_with fail
     refine (Hid.out HT : Calls _ _ _ _ _).mono ?_
     rintro e w3 ⟨rfl, hK3, hB3⟩
     have HK3 : Hid (KS w w3) := HK.out.trans hK3
     have HB3 : Hid (Below B w w3) := HB.out.trans hB3
     clear hK3 hB3 HT
     go_wp2
     go_ret2
     exact .inr ⟨6, HDS.out (by omega), by decide, rfl, HK3.out, HB3.out⟩
    | ok x =>
     obtain ⟨hle, hxv⟩ := qcg ht
     have HT : Hid (Calls _ _ _ _ _) := qcn B gr gx s (p + 5) most out 5 x wr HR0.out hs (by decide) ht
     obtain rfl : b = x := by rw [hxv, HBb.out]
     clear ht hxv
     go_wp2_with fail
     refine (Hid.out HT : Calls _ _ _ _ _).mono ?_
     rintro e w3 ⟨rfl, hR3, hK3, hB3⟩
     have hG3 := hK3.2 _ _ _ _ HG.out (by decide) (by decide)
     obtain ⟨hR4, hG4⟩ := hR3.cnt hG3 1 (.int .i64 (b : Int)) (cB := cntA a b c 2) rfl
     have cy : w3.cell? ⟨w.heap.size, 1, none⟩ = some (.int .i64 0) := by rw [cell_of_row _ _ _ _ _ _ hG3]; rfl
     have fy : w3.frozen? ⟨w.heap.size, 1, none⟩ = false := frozen_of_row _ _ _ _ _ hG3
     have HR4 : Hid _ := hR4
     have HG4 : Hid _ := hG4
     have HK4 : Hid (KS w (w3.setCell ⟨w.heap.size, 1, none⟩ (.int .i64 (b : Int)))) := qg8 (HK.out.trans hK3) (gset (qcj w3 _) 1 _) (Nat.le_refl _)
     have HB4 : Hid (Below B w (w3.setCell ⟨w.heap.size, 1, none⟩ (.int .i64 (b : Int)))) := (HB.out.trans hB3).setCell hB0 _
     clear hR3 hK3 hB3 hG3 hR4 hG4 HT HR HG HK HB HR0
     go_wp2
     go_roundw
     case rel => exact ⟨2, by decide, by go_num, by show p + 10 ≤ _; omega, HG4.out, HR4.out, HK4.out, HB4.out⟩
     case measure => simp [intOf]
  · clear hk
    have hpk' : p + 10 ≤ 8 * s.size := hpk
    have hidx := idx2
    have HR0 : Hid (RdAt wr B gr gx s (p + 10) most out) := HR.out
    cases ht : tkF (bF8 s) (8 * s.size) (p + 10) 4 with
    | error er =>
     obtain ⟨hsh, rfl⟩ := qcu ht
     have HT : Hid (Calls _ _ _ _ _) := qcb B gr gx s (p + 10) most out 4 6 wr HR0.out hs (by decide) hpk' ht
     clear ht
     go_wp2_with fail
     refine (Hid.out HT : Calls _ _ _ _ _).mono ?_
     rintro e w3 ⟨rfl, hK3, hB3⟩
     have HK3 : Hid (KS w w3) := HK.out.trans hK3
     have HB3 : Hid (Below B w w3) := HB.out.trans hB3
     clear hK3 hB3 HT
     go_wp2
     go_ret2
     exact .inr ⟨6, HDS.out (by omega), by decide, rfl, HK3.out, HB3.out⟩
    | ok x =>
     obtain ⟨hle, hxv⟩ := qcg ht
     have HT : Hid (Calls _ _ _ _ _) := qcn B gr gx s (p + 10) most out 4 x wr HR0.out hs (by decide) ht
     obtain rfl : c = x := by rw [hxv, HCc.out]
     clear ht hxv
     go_wp2_with fail
     refine (Hid.out HT : Calls _ _ _ _ _).mono ?_
     rintro e w3 ⟨rfl, hR3, hK3, hB3⟩
     have hG3 := hK3.2 _ _ _ _ HG.out (by decide) (by decide)
     obtain ⟨hR4, hG4⟩ := hR3.cnt hG3 2 (.int .i64 (c : Int)) (cB := cntA a b c 3) rfl
     have cy : w3.cell? ⟨w.heap.size, 2, none⟩ = some (.int .i64 0) := by rw [cell_of_row _ _ _ _ _ _ hG3]; rfl
     have fy : w3.frozen? ⟨w.heap.size, 2, none⟩ = false := frozen_of_row _ _ _ _ _ hG3
     have HR4 : Hid _ := hR4
     have HG4 : Hid _ := hG4
     have HK4 : Hid (KS w (w3.setCell ⟨w.heap.size, 2, none⟩ (.int .i64 (c : Int)))) := qg8 (HK.out.trans hK3) (gset (qcj w3 _) 2 _) (Nat.le_refl _)
     have HB4 : Hid (Below B w (w3.setCell ⟨w.heap.size, 2, none⟩ (.int .i64 (c : Int)))) := (HB.out.trans hB3).setCell hB0 _
     clear hR3 hK3 hB3 hG3 hR4 hG4 HT HR HG HK HB HR0
     go_wp2
     go_roundw
     case rel => exact ⟨3, by decide, by go_num, by show p + 14 ≤ _; omega, HG4.out, HR4.out, HK4.out, HB4.out⟩
     case measure => simp [intOf]
  · have hp14 : p + 14 ≤ 8 * s.size := hpk
    have hr := HDL.out hp14
    have HR3 : Hid (RdAt wr B gr gx s (p + 14) most out) := HR.out
    have c0 : wr.cell? ⟨w.heap.size, 0, none⟩ = some (.int .i64 (a : Int)) := by rw [cell_of_row _ _ _ _ _ _ HG.out]; rfl
    have c1 : wr.cell? ⟨w.heap.size, 1, none⟩ = some (.int .i64 (b : Int)) := by rw [cell_of_row _ _ _ _ _ _ HG.out]; rfl
    have c2 : wr.cell? ⟨w.heap.size, 2, none⟩ = some (.int .i64 (c : Int)) := by rw [cell_of_row _ _ _ _ _ _ HG.out]; rfl
    unfold dynT at hr
    clear hk hpk HDS HDL HA HBb HCc HR HG
    have HRR : Hid (r = _) := hr
    clear hr
    go_wp2
    go_quiet (fail)
    have HR4 : Hid (RdAt (wr.drewN nq) B gr gx s (p + 14) most out) := HR3.out.drewN nq
    have HK4 : Hid (KS w (wr.drewN nq)) := HK.out.trans (qa7 _ _)
    have HB4 : Hid (Below B w (wr.drewN nq)) := below_drewN HB.out nq
    clear c0 c1 c2 HR3 HK HB
    generalize wr.drewN nq = W4 at *
    by_cases hbad : 29 < a ∨ 29 < b
    · have HRE : Hid (r = .error 3) := by unfold Hid; rw [HRR.out, if_pos hbad]
      clear HRR
      by_cases h1 : 29 < a
      · have h1i : (286 : Int) < (a : Int) + 257 := by omega
        go_wp2
        go_ret2
        exact .inr ⟨3, HRE.out, by decide, rfl, HK4.out, HB4.out⟩
      · have h1i : ¬ (286 : Int) < (a : Int) + 257 := by omega
        have h2i : (30 : Int) < (b : Int) + 1 := by omega
        go_wp2
        go_ret2
        exact .inr ⟨3, HRE.out, by decide, rfl, HK4.out, HB4.out⟩
    · obtain ⟨c4, hc4⟩ : ∃ c4, c + 4 = c4 := ⟨_, rfl⟩
      obtain ⟨N, hN⟩ : ∃ N, a + b + 258 = N := ⟨_, rfl⟩
      obtain ⟨sy, hsy⟩ : ∃ sy, a + 257 = sy := ⟨_, rfl⟩
      have HRE : Hid (r = if 8 * s.size < p + 14 + 3 * c4 then .error 6 else if fitE (fstL (bF8 s) (p + 14) c4) = false then .error 3 else match rowF (fstL (bF8 s) (p + 14) c4) (bF8 s) (8 * s.size) N (8 * s.size + 1) (p + 14 + 3 * c4) [] with
       | .error e => .error e
       | .ok (row, p1) => if row.getD 256 0 = 0 then .error 3 else if fitE (row.take sy) = false ∨ fitE (row.drop sy) = false then .error 3 else .ok (row.take sy, row.drop sy, p1)) := by unfold Hid; rw [HRR.out, if_neg hbad, hc4, hN, hsy]
      have h1i : ¬ (286 : Int) < (sy : Int) := by omega
      have h2i : ¬ (30 : Int) < (b : Int) + 1 := by omega
      have hci : (c : Int) + 4 = (c4 : Int) := by omega
      have hsi : (a : Int) + 257 = (sy : Int) := by omega
      have hc19 : c4 ≤ 19 := by omega
      have hsN : sy ≤ N := by omega
      have hs257 : 257 ≤ sy := by omega
      have hN320 : N ≤ 320 := by omega
      have HSB : Hid (sy + b + 1 = N) := by unfold Hid; omega
      have HFI : Hid (Calls _ _ _ _ _) := qwp B gr gx s (p + 14) most out c4 W4 HR4.out hs hp14 (by omega)
      clear HRR hbad hc4 hN hsy
      go_wp2_with fail
      refine (Hid.out HFI : Calls _ _ _ _ _).mono ?_
      clear HFI
      rintro e w5 (⟨hsh, rfl, hK5, hB5⟩ | ⟨hlg, hft, rfl, hK5, hB5⟩ | ⟨hlg, hft, B1, t, rfl, hP5, hR5, hK5, hB5⟩)
      · have HK5 : Hid (KS w w5) := HK4.out.trans hK5
        have HB5 : Hid (Below B w w5) := HB4.out.trans hB5
        clear hK5 hB5
        go_wp2
        go_ret2
        exact .inr ⟨6, by rw [HRE.out, if_pos hsh], by decide, rfl, HK5.out, HB5.out⟩
      · have HK5 : Hid (KS w w5) := HK4.out.trans hK5
        have HB5 : Hid (Below B w w5) := HB4.out.trans hB5
        clear hK5 hB5
        have HRF : Hid (r = .error 3) := by unfold Hid; rw [HRE.out, if_neg (by omega), if_pos hft]
        clear HRE hft
        go_wp2
        go_ret2
        exact .inr ⟨3, HRF.out, by decide, rfl, HK5.out, HB5.out⟩
      · have HK5 : Hid (KS w w5) := HK4.out.trans hK5
        have HB5 : Hid (Below B w w5) := HB4.out.trans hB5
        have HRF : Hid (r = match rowF (fstL (bF8 s) (p + 14) c4) (bF8 s) (8 * s.size) N (8 * s.size + 1) (p + 14 + 3 * c4) [] with
         | .error e => .error e
         | .ok (row, p1) => if row.getD 256 0 = 0 then .error 3 else if fitE (row.take sy) = false ∨ fitE (row.drop sy) = false then .error 3 else .ok (row.take sy, row.drop sy, p1)) := by unfold Hid; rw [HRE.out, if_neg (by omega), if_neg (by rw [hft]; decide)]
        have hLe := (qbx hft).2
        have HR5 : Hid (RdAt w5 B gr gx s (p + 14 + 3 * c4) most out) := hR5
        rw [← qd4 (bF8 s) (p + 14) c4] at hP5
        clear hK5 hB5 HRE HK4 HB4 HR4 hft hR5
        generalize hro : rowF (fstL (bF8 s) (p + 14) c4) (bF8 s) (8 * s.size) N (8 * s.size + 1) (p + 14 + 3 * c4) [] = ro at HRF
        have HRW : Hid (Calls _ _ _ _ _) := q2b B gr gx B1 t s (p + 14 + 3 * c4) most out N (8 * s.size + 1) _ ro w5 HR5.out hP5 hLe hs hlg (by omega) (by omega) hro
        clear hro hP5 hLe
        have hni : (sy : Int) + ((b : Int) + 1) = (N : Int) := by have := HSB.out; omega
        go_wp2_with fail
        refine (Hid.out HRW : Calls _ _ _ _ _).mono ?_
        clear HRW
        rintro e w6 (⟨row, q, v, rfl, rfl, hrl, hO6, hq1, hq2, hR6, hK6, hB6⟩ | ⟨er, rfl, her, rfl, hK6, hB6⟩)
        · obtain ⟨g, cap, rfl, hgb, hcap, hgs⟩ := qch hO6 (by omega)
          have HK6 : Hid (KS w w6) := HK5.out.trans hK6
          have HB6 : Hid (Below B w w6) := HB5.out.trans hB6
          have HR6 : Hid (RdAt w6 B gr gx s q most out) := hR6
          obtain ⟨x, hx⟩ : ∃ x, row.getD 256 0 = x := ⟨_, rfl⟩
          have cx : w6.cell? ⟨g, 256, none⟩ = some (.int .i64 (x : Int)) := by rw [hO6.cellAt 256 (by omega), qlp row 256 (by omega), hx]
          have HRG : Hid (r = if x = 0 then .error 3 else if fitE (row.take sy) = false ∨ fitE (row.drop sy) = false then .error 3 else .ok (row.take sy, row.drop sy, q)) := by unfold Hid; rw [HRF.out]; simp only; rw [hx]
          have HI1 : Hid (IQ w6 (.slice (some ⟨g, 0, none⟩) sy cap) (zz (row.take sy))) := q3y hO6 hgs hsN hrl
          have HI2 : Hid (IQ w6 (.slice (some ⟨g, sy, none⟩) (N - sy) (cap - sy)) (zz (row.drop sy))) := q3z hO6 hgs hsN hrl
          have hN256 : 256 < N := by omega
          have hN256i : (256 : Int) < (N : Int) := by omega
          clear hK6 hB6 hR6 hx hO6 HRF HK5 HB5 HR5
          by_cases hx0 : x = 0
          · subst hx0
            go_wp2
            go_ret2
            exact .inr ⟨3, by rw [HRG.out]; rfl, by decide, rfl, HK6.out, HB6.out⟩
          · have hx0i : ((x : Int) == 0) = false := by simpa using hx0
            have HRH : Hid (r = if fitE (row.take sy) = false ∨ fitE (row.drop sy) = false then .error 3 else .ok (row.take sy, row.drop sy, q)) := by unfold Hid; rw [HRG.out, if_neg hx0]
            clear HRG
            go_wp2
            have s1 := fun W => q09 (g := g) (N := N) (cap := cap) (m := sy) (by omega) W
            have s2 := fun W => q08 (g := g) (N := N) (cap := cap) (m := sy) (by omega) (by have := HSB.out; omega) W
            have HL1 : Hid ((row.take sy).length ≤ 400) := by unfold Hid; rw [List.length_take]; omega
            have HL2 : Hid ((row.drop sy).length ≤ 400) := by unfold Hid; rw [List.length_drop]; omega
            go_cut [2, 3] (fun x y wx => (∃ gc, r = .ok (row.take sy, row.drop sy, q) ∧ x = .pointer (some ⟨gc, 0, none⟩) ∧ y = .int .i64 0 ∧ fitE (row.take sy) = true ∧ fitE (row.drop sy) = true ∧ qbl wx gc (row.take sy) (row.drop sy) ∧ Below w6.heap.size w6 wx) ∨ (r = .error 3 ∧ x = .pointer none ∧ y = .int .i64 3 ∧ Below w6.heap.size w6 wx))
            case first =>
             have HJ1 : Hid (IQ w6.drew (.slice (some ⟨g, 0, none⟩) sy cap) (zz (row.take sy))) := HI1.out.below (Below.refl _ w6).drew
             have HJ2 : Hid (IQ w6.drew (.slice (some ⟨g, sy, none⟩) (N - sy) (cap - sy)) (zz (row.drop sy))) := HI2.out.below (Below.refl _ w6).drew
             have HBD : Hid (Below w6.heap.size w6 w6.drew) := (Below.refl _ w6).drew
             by_cases hbd : fitE (row.take sy) = false ∨ fitE (row.drop sy) = false
             · have HRI : Hid (r = .error 3) := by unfold Hid; rw [HRH.out, if_pos hbd]
               have HPL : Hid (Calls _ _ _ _ _) := qvr _ _ _ _ w6.drew HJ1.out HJ2.out HL1.out HL2.out hbd
               clear HRH hbd
               go_region_held3 (fun _ => True) (trivial) ((go_at_call 113; refine (Hid.out HPL : Calls _ _ _ _ _).mono ?_; rintro e w9 ⟨rfl, hb9⟩))
               go_wp2
               go_meet
               exact .inr ⟨HRI.out, rfl, rfl, HBD.out.trans hb9⟩
             · have hb1 : fitE (row.take sy) = true := by cases hh : fitE (row.take sy); exact absurd (.inl hh) hbd; rfl
               have hb2 : fitE (row.drop sy) = true := by cases hh : fitE (row.drop sy); exact absurd (.inr hh) hbd; rfl
               have HRI : Hid (r = .ok (row.take sy, row.drop sy, q)) := by unfold Hid; rw [HRH.out, if_neg hbd]
               have HPL : Hid (Calls _ _ _ _ _) := qkf _ _ _ _ w6.drew HJ1.out HJ2.out hb1 hb2
               have HF1 : Hid (fitE (row.take sy) = true) := hb1
               have HF2 : Hid (fitE (row.drop sy) = true) := hb2
               clear HRH hbd hb1 hb2
               go_region_held3 (fun _ => True) (trivial) ((go_at_call 113; refine (Hid.out HPL : Calls _ _ _ _ _).mono ?_; rintro e w9 ⟨gc, rfl, hc9, hb9⟩))
               go_wp2
               go_meet
               exact .inl ⟨gc, HRI.out, rfl, rfl, HF1.out, HF2.out, hc9, HBD.out.trans hb9⟩
            case rest =>
             rcases hcut with ⟨gc, hr, rfl, rfl, hf1, hf2, hC, hb9⟩ | ⟨hr, rfl, rfl, hb9⟩
             · have HE : Hid (_ ∧ _ ∧ _ ∧ _ ∧ _) := And.intro hr (And.intro hf1 (And.intro hf2 (And.intro hC hb9)))
               clear hr hf1 hf2 hC hb9
               go_wp2
               go_ret2
               obtain ⟨hr, hf1, hf2, hC, hb9⟩ := HE.out
               exact .inl ⟨_, _, _, _, hr, rfl, hC, (qbx hf1).2, (qbx hf2).2, hq1, by omega, HR6.out.below hb9, HK6.out.trans (qbd hb9), HB6.out.trans (hb9.mono HR6.out.size)⟩
             · have HE : Hid (_ ∧ _) := And.intro hr hb9
               clear hr hb9
               go_wp2
               go_ret2
               obtain ⟨hr, hb9⟩ := HE.out
               exact .inr ⟨3, hr, by decide, rfl, HK6.out.trans (qbd hb9), HB6.out.trans (hb9.mono HR6.out.size)⟩
        · have HK6 : Hid (KS w w6) := HK5.out.trans hK6
          have HB6 : Hid (Below B w w6) := HB5.out.trans hB6
          have heri : ((er : Int) != 0) = true := by simpa using her
          clear hK6 hB6
          go_wp2
          go_ret2
          exact .inr ⟨er, HRF.out, her, rfl, HK6.out, HB6.out⟩
theorem qps (B gr gx k : Nat) (s : ByteArray) (p most out : Nat) (w : World) (hR : RdAt w B gr gx s p most out) (hs : s.size ≤ 100000000) (hp : p ≤ 8 * s.size) (hk : 0 < k) :
    Calls Tryz.prog 90 #[.pointer (some ⟨gr, 0, none⟩), .int .i64 (k : Int)] w fun e w' => (∃ ls ds q gc, ((k = 1 ∧ ls = fixL ∧ ds = fixD ∧ q = p) ∨ (k = 2 ∧ dynF (bF8 s) (8 * s.size) p = .ok (ls, ds, q))) ∧ e = .returned (.tuple #[.pointer (some ⟨gc, 0, none⟩), .int .i64 0]) ∧ qbl w' gc ls ds ∧ Lens ls ∧ Lens ds ∧ q ≤ 8 * s.size ∧ p ≤ q ∧ RdAt w' B gr gx s q most out ∧ KS w w' ∧ Below B w w') ∨ (∃ er, ((k = 2 ∧ dynF (bF8 s) (8 * s.size) p = .error er) ∨ (2 < k ∧ er = 3)) ∧ er ≠ 0 ∧ e = .returned (.tuple #[.pointer none, .int .i64 (er : Int)]) ∧ KS w w' ∧ Below B w w') := by
 have HR : Hid (RdAt w B gr gx s p most out) := hR
 by_cases h1 : k = 1
 · subst h1
   have HF : Hid (Calls _ _ _ _ _) := qjr B gr gx s p most out w hR
   clear hR
   go_enter Tryz.func90, Tryz.ntmps90
   go_wp2_with fail
   refine (Hid.out HF : Calls _ _ _ _ _).mono ?_
   rintro e w1 ⟨gc, rfl, hC, hR1, hK1, hB1⟩
   have HE : Hid (_ ∧ _ ∧ _ ∧ _) := And.intro hC (And.intro hR1 (And.intro hK1 hB1))
   clear hC hR1 hK1 hB1 HF
   go_wp2
   go_ret2
   obtain ⟨hC, hR1, hK1, hB1⟩ := HE.out
   exact .inl ⟨_, _, _, _, .inl ⟨by trivial, rfl, rfl, rfl⟩, rfl, hC, qgc, qgd, hp, Nat.le_refl _, hR1, hK1, hB1⟩
 · have h1i : ((k : Int) == 1) = false := by simp; omega
   by_cases h2 : k = 2
   · subst h2
     have HF : Hid (Calls _ _ _ _ _) := qpm B gr gx s p most out _ w hR hs hp rfl
     clear hR h1
     go_enter Tryz.func90, Tryz.ntmps90
     go_wp2_with fail
     refine (Hid.out HF : Calls _ _ _ _ _).mono ?_
     rintro e w1 (⟨ls, ds, q, gc, hr, rfl, hC, hl, hd, hq, hpq, hR1, hK1, hB1⟩ | ⟨er, hr, her, rfl, hK1, hB1⟩)
     · have HE : Hid (_ ∧ _ ∧ _ ∧ _ ∧ _ ∧ _ ∧ _) := And.intro hr (And.intro hC (And.intro hl (And.intro hd (And.intro hR1 (And.intro hK1 hB1)))))
       clear hr hC hl hd hR1 hK1 hB1 HF
       go_wp2
       go_ret2
       obtain ⟨hr, hC, hl, hd, hR1, hK1, hB1⟩ := HE.out
       exact .inl ⟨_, _, _, _, .inr ⟨by trivial, hr⟩, rfl, hC, hl, hd, hq, hpq, hR1, hK1, hB1⟩
     · have HE : Hid (_ ∧ _ ∧ _) := And.intro hr (And.intro hK1 hB1)
       clear hr hK1 hB1 HF
       go_wp2
       go_ret2
       obtain ⟨hr, hK1, hB1⟩ := HE.out
       exact .inr ⟨er, .inl ⟨by trivial, hr⟩, her, rfl, hK1, hB1⟩
   · have h2i : ((k : Int) == 2) = false := by simp; omega
     clear hR
     go_enter Tryz.func90, Tryz.ntmps90
     go_wp2
     go_ret2
     exact .inr ⟨3, .inr ⟨by omega, rfl⟩, by decide, rfl, KS.refl _, Below.refl _ _⟩
theorem qpi (a b : Nat) (ha : a < 65536) (hb : b < 65536) : bits BinOp.xor .i64 (a : Int) (b : Int) = ((a ^^^ b : Nat) : Int) := by
 have hx : a ^^^ b < 2 ^ 16 := Nat.xor_lt_two_pow (by omega) (by omega)
 show IntKind.i64.wrap ((BitVec.ofInt 64 (a : Int) ^^^ BitVec.ofInt 64 (b : Int)).toNat : Int) = _
 rw [BitVec.toNat_xor, ofInt_u64 a (by omega), ofInt_u64 b (by omega)]
 generalize a ^^^ b = x at *
 simp [IntKind.wrap, IntKind.bits, IntKind.signed]
 omega
theorem q4i (n : Nat) (h : n < 65536) : 65535 ^^^ n = 65535 - n := by
 apply Nat.eq_of_testBit_eq
 intro i
 rw [Nat.testBit_xor, show 65535 - n = 2 ^ 16 - (n + 1) by omega, Nat.testBit_two_pow_sub_succ (by omega), show 65535 = 2 ^ 16 - 1 by decide, Nat.testBit_two_pow_sub_one]
 by_cases hi : i < 16
 · simp [hi]
 · rw [Nat.testBit_lt_two_pow (Nat.lt_of_lt_of_le (show n < 2 ^ 16 by omega) (Nat.pow_le_pow_right (by decide) (by omega)))]; simp [hi]
theorem xor16 (n m : Nat) (hn : n < 65536) (hm : m < 65536) : n ^^^ m = 65535 ↔ n + m = 65535 := by
 constructor
 · intro h
   have : m = n ^^^ 65535 := by rw [← h, ← Nat.xor_assoc, Nat.xor_self, Nat.zero_xor]
   rw [Nat.xor_comm, q4i n hn] at this
   omega
 · intro h
   have : m = 65535 ^^^ n := by rw [q4i n hn]; omega
   rw [this, Nat.xor_comm 65535 n, ← Nat.xor_assoc, Nat.xor_self, Nat.zero_xor]
theorem byte8 (s : ByteArray) (a k : Nat) : qal (fun i => bF8 s (8 * a + 8 * k + i)) 8 = (s.data.toList.getD (a + k) 0).toNat := by
 have h : qal (fun i => bF8 s (8 * a + 8 * k + i)) 8 = qal (fun i => (s.data.toList.getD (a + k) 0).toNat.testBit i) 8 := by
  refine qaz 8 (fun i hi => ?_)
  unfold bF8 sbit
  rw [show (8 * a + 8 * k + i) / 8 = a + k by omega, show (8 * a + 8 * k + i) % 8 = i by omega]
 rw [h, qfv, Nat.mod_eq_of_lt (UInt8.toNat_lt _)]
theorem q0b (s : ByteArray) (a n : Nat) (h : a + n ≤ s.size) : (cutT s a n).data.toList.map UInt8.toNat = bytF (bF8 s) (8 * a) n := by
 rw [qnw]
 unfold bytF
 apply List.ext_getElem?
 intro i
 rw [List.getElem?_map, List.getElem?_take, List.getElem?_map]
 by_cases hi : i < n
 · rw [if_pos hi, List.getElem?_drop, List.getElem?_range hi, List.getElem?_eq_getElem (by rw [qad]; omega)]
   simp only [Option.map_some, Option.some.injEq]
   rw [byte8, List.getD_eq_getElem?_getD, List.getElem?_eq_getElem (by rw [qad]; omega)]
   rfl
 · rw [if_neg hi, List.getElem?_eq_none (by simp; omega)]
   rfl
theorem qsw (B gr gx : Nat) (s : ByteArray) (p most out : Nat) (r : Except Nat (List Nat × Nat × Nat)) (w : World) (hR : RdAt w B gr gx s p most out) (hs : s.size ≤ 100000000) (hp : p ≤ 8 * s.size) (ho : out ≤ most) (hm : most ≤ 70000) (h : stF (bF8 s) (8 * s.size) most p out = r) :
    Calls Tryz.prog 89 #[.pointer (some ⟨gr, 0, none⟩)] w fun e w' => (∃ b q o t, r = .ok (b, q, o) ∧ e = .returned (.tuple #[.string t, .int .i64 0]) ∧ t.data.toList.map UInt8.toNat = b ∧ q ≤ 8 * s.size ∧ p ≤ q ∧ o ≤ most ∧ RdAt w' B gr gx s q most o ∧ KS w w' ∧ Below B w w') ∨ (∃ er t, r = .error er ∧ er ≠ 0 ∧ e = .returned (.tuple #[.string t, .int .i64 (er : Int)]) ∧ KS w w' ∧ Below B w w') := by
 have c0 := hR.cell0
 have HE : Hid (Calls _ _ _ _ _) := qmt gx s p w hR.2.2.1 (by omega)
 have HR : Hid (RdAt w B gr gx s p most out) := hR
 unfold stF at h
 obtain ⟨a, ha⟩ : ∃ a, a = (p + 7) / 8 := ⟨_, rfl⟩
 have ha1 : 8 * a ≤ 8 * s.size := by omega
 have ha2 : p ≤ 8 * a := by omega
 rw [← ha, Nat.mul_comm a 8] at h HE
 have HH : Hid (_ = r) := h
 clear hR h ha
 go_enter Tryz.func89, Tryz.ntmps89
 go_wp2_with fail
 refine (Hid.out HE : Calls _ _ _ _ _).mono ?_
 rintro e w1 ⟨rfl, hS1, hG1⟩
 obtain ⟨hR1, hK1, hB1⟩ := HR.out.moved hG1 hS1
 have HR1 : Hid (RdAt w1 B gr gx s (8 * a) most out) := hR1
 have HK1 : Hid (KS w w1) := hK1
 have HB1 : Hid (Below B w w1) := hB1
 clear HE HR c0 hS1 hG1 hR1 hK1 hB1
 cases ht : tkF (bF8 s) (8 * s.size) (8 * a) 16 with
 | error er =>
  have HT : Hid (Calls _ _ _ _ _) := qcb B gr gx s (8 * a) most out 16 er w1 HR1.out hs (by decide) ha1 ht
  have hh := HH.out
  rw [ht] at hh
  have HRE : Hid (.error er = r) := hh
  obtain ⟨_, rfl⟩ := qcu ht
  clear hh HH ht
  go_wp2_with fail
  refine (Hid.out HT : Calls _ _ _ _ _).mono ?_
  rintro e w2 ⟨rfl, hK2, hB2⟩
  have HK2 : Hid (KS w w2) := HK1.out.trans hK2
  have HB2 : Hid (Below B w w2) := HB1.out.trans hB2
  clear hK2 hB2 HT
  go_wp2
  go_ret2
  exact .inr ⟨6, _, HRE.out.symm, by decide, rfl, HK2.out, HB2.out⟩
 | ok n =>
  have HT : Hid (Calls _ _ _ _ _) := qcn B gr gx s (8 * a) most out 16 n w1 HR1.out hs (by decide) ht
  have hh := HH.out
  rw [ht] at hh
  obtain ⟨hle, hnv⟩ := qcg ht
  have hn16 : n < 65536 := by rw [hnv]; exact qaw _ 16
  have HH2 : Hid (_ = r) := hh
  clear hh HH ht hnv
  go_wp2_with fail
  refine (Hid.out HT : Calls _ _ _ _ _).mono ?_
  rintro e w2 ⟨rfl, hR2, hK2, hB2⟩
  have HR2 : Hid (RdAt w2 B gr gx s (8 * a + 16) most out) := hR2
  have HK2 : Hid (KS w w2) := HK1.out.trans hK2
  have HB2 : Hid (Below B w w2) := HB1.out.trans hB2
  clear hR2 hK2 hB2 HT HR1 HK1 HB1
  cases ht : tkF (bF8 s) (8 * s.size) (8 * a + 16) 16 with
  | error er =>
   have HT : Hid (Calls _ _ _ _ _) := qcb B gr gx s (8 * a + 16) most out 16 er w2 HR2.out hs (by decide) (by omega) ht
   have hh := HH2.out
   simp only [ht] at hh
   have HRE : Hid (.error er = r) := hh
   obtain ⟨_, rfl⟩ := qcu ht
   clear hh HH2 ht
   go_wp2_with fail
   refine (Hid.out HT : Calls _ _ _ _ _).mono ?_
   rintro e w3 ⟨rfl, hK3, hB3⟩
   have HK3 : Hid (KS w w3) := HK2.out.trans hK3
   have HB3 : Hid (Below B w w3) := HB2.out.trans hB3
   clear hK3 hB3 HT
   go_wp2
   go_ret2
   exact .inr ⟨6, _, HRE.out.symm, by decide, rfl, HK3.out, HB3.out⟩
  | ok m =>
   have HT : Hid (Calls _ _ _ _ _) := qcn B gr gx s (8 * a + 16) most out 16 m w2 HR2.out hs (by decide) ht
   have hh := HH2.out
   simp only [ht] at hh
   obtain ⟨hle2, hmv⟩ := qcg ht
   have hm16 : m < 65536 := by rw [hmv]; exact qaw _ 16
   have HH3 : Hid (_ = r) := hh
   clear hh HH2 ht hmv
   have hx := qpi n m hn16 hm16
   have HX := xor16 n m hn16 hm16
   go_wp2_with fail
   refine (Hid.out HT : Calls _ _ _ _ _).mono ?_
   rintro e w3 ⟨rfl, hR3, hK3, hB3⟩
   have HR3 : Hid (RdAt w3 B gr gx s (8 * a + 32) most out) := hR3
   have HK3 : Hid (KS w w3) := HK2.out.trans hK3
   have HB3 : Hid (Below B w w3) := HB2.out.trans hB3
   have c0 := hR3.cell0
   have HTX : Hid (Calls _ _ _ _ _) := quv gx s (8 * a + 32) (n : Int) w3 hR3.2.2.1 (by omega) (by omega) (by omega)
   rw [show near (n : Int) 65536 = n by have := qpc (n : Int) 65536 (by decide); omega, show (8 * a + 32 + 7) / 8 = a + 4 by omega] at HTX
   clear hR3 hK3 hB3 HT HR2 HK2 HB2
   by_cases hsum : n + m = 65535
   · have hxn := HX.2 hsum
     rw [hxn] at hx
     clear hxn HX
     have HH4 : Hid ((if 8 * s.size < 8 * a + 32 + 8 * n then .error 6 else if most < out + n then .error 2 else .ok (bytF (bF8 s) (8 * a + 32) n, 8 * a + 32 + 8 * n, out + n)) = r) := by
      unfold Hid; rw [← HH3.out, if_neg (show ¬ (n + m ≠ 65535) from fun h => h hsum)]
     clear HH3 hsum
     go_wp2_with fail
     refine (Hid.out HTX : Calls _ _ _ _ _).mono ?_
     rintro e w4 ⟨rfl, hS4, hG4⟩
     obtain ⟨hR4, hK4, hB4⟩ := HR3.out.moved hG4 hS4
     rw [show (a + 4) * 8 + 8 * n = 8 * a + 32 + 8 * n by omega] at hR4 hS4
     have d0 := hR4.cell0
     have HSH : Hid (Calls _ _ _ _ _) := qfz gx s (8 * a + 32 + 8 * n) w4 hS4 (by omega)
     have HR4 : Hid (RdAt w4 B gr gx s (8 * a + 32 + 8 * n) most out) := hR4
     have HK4 : Hid (KS w w4) := HK3.out.trans hK4
     have HB4 : Hid (Below B w w4) := HB3.out.trans hB4
     clear hS4 hG4 hR4 hK4 hB4 HR3 HK3 HB3 HTX
     by_cases hsh : 8 * s.size < 8 * a + 32 + 8 * n
     · rw [decide_eq_true hsh] at HSH
       have HRE : Hid (.error 6 = r) := by unfold Hid; rw [← HH4.out, if_pos hsh]
       clear HH4
       go_wp2_with fail
       refine (Hid.out HSH : Calls _ _ _ _ _).mono ?_
       rintro e w5 ⟨rfl, j, rfl⟩
       go_wp2
       go_ret2
       exact .inr ⟨6, _, HRE.out.symm, by decide, rfl, HK4.out.trans (qa7 _ j), below_drewN HB4.out j⟩
     · rw [decide_eq_false hsh] at HSH
       have HRB : Hid (_ = bytF (bF8 s) (8 * (a + 4)) n) := q0b s (a + 4) n (by omega)
       go_wp2_with fail
       refine (Hid.out HSH : Calls _ _ _ _ _).mono ?_
       rintro e w5 ⟨rfl, j, rfl⟩
       have HR5 : Hid (RdAt (w4.drewN j) B gr gx s (8 * a + 32 + 8 * n) most out) := HR4.out.drewN j
       have HK5 : Hid (KS w (w4.drewN j)) := HK4.out.trans (qa7 _ j)
       have HB5 : Hid (Below B w (w4.drewN j)) := below_drewN HB4.out j
       clear HR4 HK4 HB4 HSH d0
       generalize w4.drewN j = W5 at *
       generalize cutT s (a + 4) n = tt at *
       by_cases hbig : most < out + n
       · have HG : Hid (Calls _ _ _ _ _) := qly B gr gx s (8 * a + 32 + 8 * n) most out n W5 HR5.out (by omega) (by omega) (by omega) hbig
         have HRE : Hid (.error 2 = r) := by unfold Hid; rw [← HH4.out, if_neg hsh, if_pos hbig]
         clear HH4
         go_wp2_with fail
         refine (Hid.out HG : Calls _ _ _ _ _).mono ?_
         rintro e w6 ⟨rfl, hK6, hB6⟩
         have HK6 : Hid (KS w w6) := HK5.out.trans hK6
         have HB6 : Hid (Below B w w6) := HB5.out.trans hB6
         clear hK6 hB6 HG
         go_wp2
         go_ret2
         exact .inr ⟨2, _, HRE.out.symm, by decide, rfl, HK6.out, HB6.out⟩
       · have HG : Hid (Calls _ _ _ _ _) := qpj B gr gx s (8 * a + 32 + 8 * n) most out n W5 HR5.out (by omega) (by omega) (by omega) (by omega)
         have HRE : Hid (.ok (bytF (bF8 s) (8 * a + 32) n, 8 * a + 32 + 8 * n, out + n) = r) := by unfold Hid; rw [← HH4.out, if_neg hsh, if_neg hbig]
         clear HH4
         go_wp2_with fail
         refine (Hid.out HG : Calls _ _ _ _ _).mono ?_
         rintro e w6 ⟨rfl, hR6, hK6, hB6⟩
         have HR6 : Hid (RdAt w6 B gr gx s (8 * a + 32 + 8 * n) most (out + n)) := hR6
         have HK6 : Hid (KS w w6) := HK5.out.trans hK6
         have HB6 : Hid (Below B w w6) := HB5.out.trans hB6
         clear hR6 hK6 hB6 HG
         go_wp2
         go_ret2
         exact .inl ⟨_, _, _, _, HRE.out.symm, rfl, HRB.out, by omega, by omega, by omega, HR6.out, HK6.out, HB6.out⟩
   · have hxn : ¬ n ^^^ m = 65535 := fun h => hsum (HX.1 h)
     have hxi : (((n ^^^ m : Nat) : Int) != 65535) = true := by simpa using (by omega : ¬ ((n ^^^ m : Nat) : Int) = 65535)
     have HRE : Hid (.error 3 = r) := by unfold Hid; rw [← HH3.out, if_pos hsum]
     clear HX HH3 HTX
     generalize n ^^^ m = xx at *
     go_wp2
     go_ret2
     exact .inr ⟨3, _, HRE.out.symm, by decide, rfl, HK3.out, HB3.out⟩
end Go.Proofs.YthkppipdflmekaaGreat
