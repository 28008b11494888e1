/- Contracts of the reader's fixedCodes, firstCodes and row. Contract of the reader's firstCodes. Contract of the reader's row. -/
import Derived.Test.YtbknflckdbfogaaGreatQInfL
namespace Go.Proofs.YtbknflckdbfogaaGreat
open Go.RowKit
set_option linter.unusedVariables false

theorem fixL_fit : fitE fixL = true := by decide +kernel
theorem fixD_fit : fitE fixD = true := by decide +kernel
theorem fixL_lens : Lens fixL := (fitE_ok fixL_fit).2
theorem fixD_lens : Lens fixD := (fitE_ok fixD_fit).2
theorem RdAt.fixed {w : World} {B gr gx gc : Nat} {s : ByteArray} {p most out : Nat} (h : RdAt w B gr gx s p most out) (hc : CodesAt w gc fixL fixD) : RdAt (w.setCell ⟨gr, 3, none⟩ (.pointer (some ⟨gc, 0, none⟩))) B gr gx s p most out ∧ KS w (w.setCell ⟨gr, 3, none⟩ (.pointer (some ⟨gc, 0, none⟩))) ∧ Below B w (w.setCell ⟨gr, 3, none⟩ (.pointer (some ⟨gc, 0, none⟩))) ∧ (w.setCell ⟨gr, 3, none⟩ (.pointer (some ⟨gc, 0, none⟩))).cell? ⟨gr, 3, none⟩ = some (.pointer (some ⟨gc, 0, none⟩)) := by
  have hne := h.ne
  obtain ⟨h1, h2, h3, fp, h4, h5⟩ := h
  have hg : w.grownBy (w.setCell ⟨gr, 3, none⟩ (.pointer (some ⟨gc, 0, none⟩))) (some gr) := gset (grefl w _) 3 _
  have hk : KS w (w.setCell ⟨gr, 3, none⟩ (.pointer (some ⟨gc, 0, none⟩))) := ks_grown hg h4 (.inr rfl)
  have h6 : (w.setCell ⟨gr, 3, none⟩ (.pointer (some ⟨gc, 0, none⟩))).heap[gr]? = some (.cells #[.pointer (some ⟨gx, 0, none⟩), .int .i64 (most : Int), .int .i64 (out : Int), .pointer (some ⟨gc, 0, none⟩)] 90 (0, 0)) := by rw [heap_setCell_same _ _ _ _ _ _ h4]; rfl
  refine ⟨⟨h1, h2, (hg.block gx h3.lt (fun e => hne (by cases e; rfl))).trans h3, _, h6, .inr ⟨gc, rfl, hc.ks hk⟩⟩, hk, (Below.refl _ w).setCell h1 _, ?_⟩
  rw [cell_of_row _ _ _ _ _ _ h6]; rfl
set_option maxRecDepth 100000 in
set_option maxHeartbeats 2000000 in
theorem fixedCodes_any (B gr gx : Nat) (s : ByteArray) (p most out : Nat) (w : World) (hR : RdAt w B gr gx s p most out) :
    Calls Tryz.prog 104 #[.pointer (some ⟨gr, 0, none⟩)] w fun e w' => ∃ gc, e = .returned (.tuple #[.pointer (some ⟨gc, 0, none⟩), .int .i64 0]) ∧ CodesAt w' gc fixL fixD ∧ RdAt w' B gr gx s p most out ∧ KS w w' ∧ Below B w w' := by
  obtain ⟨h1, h2, h3, fp, h4, h5⟩ := id hR
  have c3 : w.cell? ⟨gr, 3, none⟩ = some (.pointer fp) := by rw [cell_of_row _ _ _ _ _ _ h4]; rfl
  have hB0 := hR.size
  rcases h5 with rfl | ⟨gc, rfl, hc⟩
  · have HL : Hid (Calls _ _ _ _ _) := lengths_any w
    have HR : Hid (RdAt w B gr gx s p most out) := hR
    clear hR h3 h4
    go_enter Tryz.func104, Tryz.ntmps104
    go_wp2_with fail
    refine (Hid.out HL : Calls _ _ _ _ _).mono ?_
    rintro e w1 ⟨v, u, rfl, o1, o2, b1⟩
    have HP : Hid (Calls _ _ _ _ _) := plant_good v u fixL fixD w1 (own_IO o1 (by decide)) (own_IO o2 (by decide)) fixL_fit fixD_fit
    clear HL o1 o2 c3
    go_wp2_with fail
    refine (Hid.out HP : Calls _ _ _ _ _).mono ?_
    rintro e w2 ⟨gc, rfl, hc, b2⟩
    have hb2 : Below w.heap.size w w2 := b1.trans (b2.mono b1.size)
    have hR2 := HR.out.below hb2
    obtain ⟨k1, k2, k3, k4⟩ := hR2.fixed hc
    have f3 : w2.frozen? ⟨gr, 3, none⟩ = false := by
      obtain ⟨_, _, _, fp', h4', _⟩ := hR2
      exact frozen_of_row _ _ _ _ _ h4'
    obtain ⟨x3, c3⟩ : ∃ x3, w2.cell? ⟨gr, 3, none⟩ = some x3 := by
      obtain ⟨_, _, _, fp', h4', _⟩ := hR2
      exact ⟨_, by rw [cell_of_row _ _ _ _ _ _ h4']; rfl⟩
    have HC : Hid _ := hc.ks k2
    have HK : Hid _ := (ks_below hb2).trans k2
    have HB : Hid (Below B w _) := (hb2.mono hB0).trans k3
    have HR2 : Hid _ := k1
    clear HP hc b1 b2 hb2 hR2 k1 k2 k3
    go_wp2
    go_ret2
    exact ⟨gc, rfl, HC.out, HR2.out, HK.out, HB.out⟩
  · clear h3 h4
    go_enter Tryz.func104, Tryz.ntmps104
    go_wp2
    go_ret2
    exact ⟨gc, rfl, hc, hR, KS.refl _, Below.refl _ _⟩
/-- The order's row as cells. -/
theorem order_any (w : World) : Calls Tryz.prog 84 #[] w fun e w' => e = .returned (.slice (some ⟨w.heap.size, 0, none⟩) 19 19) ∧ w' = w.alloc (.cells (nc ordL).toArray 3) := by
  go_enter Tryz.func84, Tryz.ntmps84
  go_wp2
  go_ret
  exact ⟨rfl, rfl⟩
end Go.Proofs.YtbknflckdbfogaaGreat
namespace Go.Proofs.YtbknflckdbfogaaGreat
open Go.RowKit
set_option linter.unusedVariables false

theorem ord_at : ∀ k : Fin 19, ordL.idxOf (ordL.getD k.val 0) = k.val ∧ ordL.getD k.val 0 < 19 := by decide +kernel
theorem ord_next : ∀ k t : Fin 19, (ordL.idxOf t.val < k.val + 1) = (ordL.idxOf t.val < k.val ∨ t.val = ordL.getD k.val 0) := by
  have h : ∀ k t : Fin 19, (ordL.idxOf t.val < k.val + 1) ↔ (ordL.idxOf t.val < k.val ∨ t.val = ordL.getD k.val 0) := by decide +kernel
  intro k t
  exact propext (h k t)
theorem fstL_len (f : Nat → Bool) (p k : Nat) : (fstL f p k).length = 19 := by simp [fstL]
theorem fstL_set (f : Nat → Bool) (p k : Nat) (hk : k < 19) : (nc (fstL f p k)).set (ordL.getD k 0) (.int .i64 (takeN (fun i => f (p + 3 * k + i)) 3 : Int)) = nc (fstL f p (k + 1)) := by
  apply List.ext_getElem?
  intro i
  rw [List.getElem?_set]
  unfold nc fstL
  by_cases hi : i < 19
  · simp only [List.map_map, List.length_map, List.length_range, List.getElem?_map, List.getElem?_range hi, Option.map_some, Function.comp_apply]
    have hn := ord_next ⟨k, hk⟩ ⟨i, hi⟩
    have ha := ord_at ⟨k, hk⟩
    simp only at hn ha
    by_cases e : ordL.getD k 0 = i
    · rw [if_pos e, if_pos ha.2]
      have h1 : ordL.idxOf i = k := by rw [← e]; exact ha.1
      rw [if_pos (by rw [h1]; omega), h1]
    · rw [if_neg e]
      by_cases h2 : ordL.idxOf i < k
      · rw [if_pos h2, if_pos (by omega)]
      · rw [if_neg h2, if_neg (fun h => by rw [hn] at h; exact h.elim h2 (fun q => e q.symm))]
  · rw [List.getElem?_eq_none (by simp; omega), List.getElem?_eq_none (by simp; omega)]
    split
    · rename_i e
      have := (ord_at ⟨k, hk⟩).2
      simp only at this
      omega
    · rfl
theorem fstL_zero (f : Nat → Bool) (p : Nat) : madeCells #[Value.int .i64 0] 19 = (nc (fstL f p 0)).toArray := by
  apply Array.ext'
  rw [toList_madeCells_one]
  unfold nc fstL
  rw [List.map_map]
  rfl
theorem IO_cells {w : World} {g : Nat} {ns : List Nat} (h : w.heap[g]? = some (.cells (nc ns).toArray 3 (0, 0))) (n : Nat) (hn : n = ns.length) : IQ w (.slice (some ⟨g, 0, none⟩) n n) (zz ns) := by
  subst hn
  refine ⟨g, 0, ns.length, by rw [zz_len], (Array.getElem?_eq_some_iff.1 h).1, fun i hi => ?_⟩
  rw [zz_len] at hi
  rw [Nat.zero_add, cell_of_row _ _ _ _ _ _ h, List.getElem?_toArray, nc_at ns i hi, zz_at]
theorem foreignI : Foreign 3 := by unfold Foreign; decide
set_option maxRecDepth 100000 in
set_option maxHeartbeats 4000000 in
theorem first_any (B gr gx : Nat) (s : ByteArray) (p most out n : Nat) (w : World) (hR : RdAt w B gr gx s p most out) (hs : s.size ≤ 100000000) (hp : p ≤ 8 * s.size) (hn : n ≤ 19) :
    Calls Tryz.prog 116 #[.pointer (some ⟨gr, 0, none⟩), .int .i64 (n : Int)] w fun e w' => (8 * s.size < p + 3 * n ∧ e = .returned (.tuple #[.pointer none, .int .i64 6]) ∧ KS w w' ∧ Below B w w') ∨ (p + 3 * n ≤ 8 * s.size ∧ fitE (fstL (bF8 s) p n) = false ∧ e = .returned (.tuple #[.pointer none, .int .i64 3]) ∧ KS w w' ∧ Below B w w') ∨ (p + 3 * n ≤ 8 * s.size ∧ fitE (fstL (bF8 s) p n) = true ∧ ∃ B1 t, e = .returned (.tuple #[.pointer (some ⟨t, 0, none⟩), .int .i64 0]) ∧ Planted w' B1 t (fstL (bF8 s) p n) 19 ∧ RdAt w' B gr gx s (p + 3 * n) most out ∧ KS w w' ∧ Below B w w') := by
  have hB0 := hR.size
  have hmk : ∀ W : World, (Instr.makeSlice 40 (.int .i64 19) (.int .i64 19)).run Tryz.prog W = .ok (.slice (some ⟨W.heap.size, 0, none⟩) 19 19) (W.alloc (.cells (madeCells #[.int .i64 0] 19) 3)) := make_ints 19 (by decide)
  have hA1 : Below w.heap.size w (w.alloc (.cells (nc ordL).toArray 3)) := (Below.refl _ w).alloc (Nat.le_refl _) _
  have hA2 : Below w.heap.size w ((w.alloc (.cells (nc ordL).toArray 3)).alloc (.cells (madeCells #[.int .i64 0] 19) 3)) := hA1.alloc hA1.size _
  have HA2 : Hid (Below w.heap.size w ((w.alloc (.cells (nc ordL).toArray 3)).alloc (.cells (madeCells #[.int .i64 0] 19) 3))) := hA2
  have HR2 : Hid (RdAt ((w.alloc (.cells (nc ordL).toArray 3)).alloc (.cells (madeCells #[.int .i64 0] 19) 3)) B gr gx s p most out) := hR.below hA2
  have HO2 : Hid (((w.alloc (.cells (nc ordL).toArray 3)).alloc (.cells (madeCells #[.int .i64 0] 19) 3)).heap[w.heap.size]? = some (.cells (nc ordL).toArray 3 (0, 0))) := (heap_alloc_old _ _ (by rw [World.size_alloc]; omega)).trans (heap_alloc_new w _)
  have HL2 : Hid (((w.alloc (.cells (nc ordL).toArray 3)).alloc (.cells (madeCells #[.int .i64 0] 19) 3)).heap[w.heap.size + 1]? = some (.cells (nc (fstL (bF8 s) p 0)).toArray 3 (0, 0))) := by
    unfold Hid
    rw [← fstL_zero]
    have := heap_alloc_new (w.alloc (.cells (nc ordL).toArray 3)) (.cells (madeCells #[.int .i64 0] 19) 3)
    rw [World.size_alloc] at this; exact this
  have hni : (n : Int) ≤ 19 := by omega
  have hni0 : (0 : Int) ≤ (n : Int) := by omega
  clear hA1 hA2 hR
  go_enter Tryz.func116, Tryz.ntmps116
  go_wp2_with fail
  refine (order_any w).mono ?_
  rintro e w1 ⟨rfl, rfl⟩
  go_wp2
  generalize World.alloc (World.alloc w _) _ = W2 at *
  clear hmk
  go_loopw [20] (fun i wr => ∃ k : Nat, k ≤ n ∧ i = .int .i64 (k : Int) ∧ p + 3 * k ≤ 8 * s.size ∧ wr.heap[w.heap.size]? = some (.cells (nc ordL).toArray 3 (0, 0)) ∧ wr.heap[w.heap.size + 1]? = some (.cells (nc (fstL (bF8 s) p k)).toArray 3 (0, 0)) ∧ RdAt wr B gr gx s (p + 3 * k) most out ∧ KS w wr ∧ Below B w wr) (fun i _ => n - (intOf i).toNat)
  case atStart => exact ⟨0, by omega, rfl, by omega, HO2.out, HL2.out, HR2.out, ks_below HA2.out, HA2.out.mono hB0⟩
  case round =>
    clear HA2 HR2 HO2 HL2
    obtain ⟨k, hk, rfl, hpk, hO, hL, hR, hK, hB⟩ := hrel
    by_cases hlt : k < n
    · have hki : (k : Int) < (n : Int) := by omega
      have hki0 : (0 : Int) ≤ (k : Int) := by omega
      obtain ⟨_, hs19⟩ := ord_at ⟨k, by omega⟩
      simp only at hs19
      have co : wr.cell? ⟨w.heap.size, k, none⟩ = some (.int .i64 (ordL.getD k 0 : Int)) := by
        rw [cell_of_row _ _ _ _ _ _ hO, List.getElem?_toArray, nc_at ordL k (by show k < 19; omega)]
      have HFS : Hid _ := fstL_set (bF8 s) p k (by omega)
      have HR : Hid (RdAt wr B gr gx s (p + 3 * k) most out) := hR
      have HO : Hid (wr.heap[w.heap.size]? = some (.cells (nc ordL).toArray 3 (0, 0))) := hO
      have HL : Hid (wr.heap[w.heap.size + 1]? = some (.cells (nc (fstL (bF8 s) p k)).toArray 3 (0, 0))) := hL
      have HK : Hid (KS w wr) := hK
      have HB : Hid (Below B w wr) := hB
      clear hO hL hR hK hB
      generalize ordL.getD k 0 = sy at *
      cases ht : tkF (bF8 s) (8 * s.size) (p + 3 * k) 3 with
      | error er =>
        have hte := tkF_err ht
        obtain ⟨hsh, rfl⟩ := hte
        have HT : Hid (Calls _ _ _ _ _) := rtake_err B gr gx s (p + 3 * k) most out 3 6 wr HR.out hs (by decide) hpk ht
        clear ht
        go_wp2_with fail
        refine (Hid.out HT : Calls _ _ _ _ _).mono ?_
        rintro e w3 ⟨rfl, hK3, hB3⟩
        have HK3 : Hid (KS w w3) := HK.out.trans hK3
        have HB3 : Hid (Below B w w3) := HB.out.trans hB3
        clear hK3 hB3 HT co
        go_wp2
        go_ret2
        exact .inl ⟨by omega, rfl, HK3.out, HB3.out⟩
      | ok x =>
        have hto := tkF_ok ht
        obtain ⟨hle, hxv⟩ := hto
        have HT : Hid (Calls _ _ _ _ _) := rtake_ok B gr gx s (p + 3 * k) most out 3 x wr HR.out hs (by decide) ht
        rw [← hxv] at HFS
        clear ht hxv
        go_wp2_with fail
        refine (Hid.out HT : Calls _ _ _ _ _).mono ?_
        rintro e w3 ⟨rfl, hR3, hK3, hB3⟩
        have hO3 := hK3.2 _ _ _ _ HO.out (by decide) (by decide)
        have hL3 := hK3.2 _ _ _ _ HL.out (by decide) (by decide)
        have hg3 : w3.grownBy (w3.setCell ⟨w.heap.size + 1, sy, none⟩ (.int .i64 (x : Int))) (some (w.heap.size + 1)) := gset (grefl w3 _) sy _
        have hL4 : (w3.setCell ⟨w.heap.size + 1, sy, none⟩ (.int .i64 (x : Int))).heap[w.heap.size + 1]? = some (.cells (nc (fstL (bF8 s) p (k + 1))).toArray 3 (0, 0)) := by
          rw [heap_setCell_same _ _ _ _ _ _ hL3, List.setIfInBounds_toArray, HFS.out]
        obtain ⟨y, cy⟩ : ∃ y, w3.cell? ⟨w.heap.size + 1, sy, none⟩ = some y := by
          refine ⟨(nc (fstL (bF8 s) p k))[sy]'(by rw [nc_len, fstL_len]; exact hs19), ?_⟩
          rw [cell_of_row _ _ _ _ _ _ hL3, List.getElem?_toArray, List.getElem?_eq_getElem (by rw [nc_len, fstL_len]; exact hs19)]
        have fy : w3.frozen? ⟨w.heap.size + 1, sy, none⟩ = false := frozen_of_row _ _ _ _ _ hL3
        have HL4 : Hid _ := hL4
        have HO4 : Hid ((w3.setCell ⟨w.heap.size + 1, sy, none⟩ (.int .i64 (x : Int))).heap[w.heap.size]? = some (.cells (nc ordL).toArray 3 (0, 0))) := (hg3.block w.heap.size (Array.getElem?_eq_some_iff.1 hO3).1 (fun e => by have := Option.some.inj e; omega)).trans hO3
        have HR4 : Hid (RdAt (w3.setCell ⟨w.heap.size + 1, sy, none⟩ (.int .i64 (x : Int))) B gr gx s (p + 3 * k + 3) most out) := hR3.k1 (k1_grown hg3 hL3) foreignI
        have HK4 : Hid (KS w (w3.setCell ⟨w.heap.size + 1, sy, none⟩ (.int .i64 (x : Int)))) := ks_new (HK.out.trans hK3) hg3 (by omega)
        have HB4 : Hid (Below B w (w3.setCell ⟨w.heap.size + 1, sy, none⟩ (.int .i64 (x : Int)))) := (HB.out.trans hB3).setCell (by show B ≤ w.heap.size + 1; omega) _
        have hsyi : (sy : Int) < 19 := by omega
        have hsyi0 : (0 : Int) ≤ (sy : Int) := by omega
        clear hR3 hK3 hB3 hO3 hL3 hg3 hL4 HT co HR HO HL HK HB HFS
        go_wp2
        go_roundw
        case rel => exact ⟨k + 1, by omega, by go_num, by omega, HO4.out, HL4.out, HR4.out, HK4.out, HB4.out⟩
        case measure => simp [intOf]; omega
    · obtain rfl : k = n := by omega
      have hIO := IO_cells hL 19 (by rw [fstL_len])
      cases hft : fitE (fstL (bF8 s) p k)
      · have HT : Hid (Calls _ _ _ _ _) := tree_err _ _ wr hIO (by rw [fstL_len]; decide) hft
        clear hO hL hIO
        have HK : Hid (KS w wr) := hK
        have HB : Hid (Below B w wr) := hB
        clear hK hB hR
        go_wp2_with fail
        refine (Hid.out HT : Calls _ _ _ _ _).mono ?_
        rintro e w3 ⟨rfl, hw3⟩
        obtain rfl : wr = w3 := hw3.symm
        clear HT hw3
        go_wp2
        go_ret2
        exact .inr (.inl ⟨hpk, hft, rfl, HK.out, HB.out⟩)
      · have HT : Hid (Calls _ _ _ _ _) := tree_ok _ _ wr hIO hft
        have HR : Hid (RdAt wr B gr gx s (p + 3 * k) most out) := hR
        have HK : Hid (KS w wr) := hK
        have HB : Hid (Below B w wr) := hB
        have hsz := hR.size
        clear hO hL hIO hR hK hB
        go_wp2_with fail
        refine (Hid.out HT : Calls _ _ _ _ _).mono ?_
        rintro e w3 ⟨B1, t, rfl, hP, hB3⟩
        rw [fstL_len] at hP
        have HP : Hid (Planted w3 B1 t (fstL (bF8 s) p k) 19) := hP
        have HR3 : Hid (RdAt w3 B gr gx s (p + 3 * k) most out) := HR.out.below hB3
        have HK3 : Hid (KS w w3) := HK.out.trans (ks_below hB3)
        have HB3 : Hid (Below B w w3) := HB.out.trans (hB3.mono hsz)
        clear HT hP hB3 HR HK HB
        go_wp2
        go_ret2
        exact .inr (.inr ⟨hpk, hft, B1, t, rfl, HP.out, HR3.out, HK3.out, HB3.out⟩)
end Go.Proofs.YtbknflckdbfogaaGreat
namespace Go.Proofs.YtbknflckdbfogaaGreat
open Go.RowKit
set_option linter.unusedVariables false

theorem tmF_bd (sym : Nat) : 1 ≤ (tmF sym).1 ∧ (tmF sym).1 ≤ 11 ∧ (tmF sym).2 ≤ 7 := by
  unfold tmF
  split
  · exact ⟨by decide, by decide, by decide⟩
  · split
    · exact ⟨by decide, by decide, by decide⟩
    · split
      · exact ⟨by decide, by decide, by decide⟩
      · exact ⟨by decide, by decide, by decide⟩
/-- A row of integers grows: the reader stays. -/
theorem RdAt.appI {w w' : World} {B C gr gx n : Nat} {s : ByteArray} {p most out : Nat} {v : Value} {xs : List Value} (h : RdAt w B gr gx s p most out) (hO : w.ownsRow C 3 1 v n xs) (hg : w.grownBy w' v.ownBlock) : RdAt w' B gr gx s p most out := by
  have hk : K1 3 w w' := by
    refine ⟨hg.size, fun b c t q hc h1 => (hg.block b (Array.getElem?_eq_some_iff.1 hc).1 (own_ne hO hc h1)).trans hc⟩
  exact h.k1 hk foreignI
set_option maxRecDepth 100000 in
set_option maxHeartbeats 1500000 in
theorem row_any (B gr gx Bt gt : Nat) (s : ByteArray) (p most out n F : Nat) (ns : List Nat) (r : Except Nat (List Nat × Nat)) (w : World) (hR : RdAt w B gr gx s p most out) (hP : Planted w Bt gt ns ns.length) (hLs : Lens ns) (hs : s.size ≤ 100000000) (hp : p ≤ 8 * s.size) (hn : n ≤ 320) (hF : 8 * s.size < p + F) (h : rowF ns (bF8 s) (8 * s.size) n F p [] = r) :
    Calls Tryz.prog 117 #[.pointer (some ⟨gr, 0, none⟩), .pointer (some ⟨gt, 0, none⟩), .int .i64 (n : Int)] w fun e w' => (∃ row q v, r = .ok (row, q) ∧ e = .returned (.tuple #[v, .int .i64 0]) ∧ row.length = n ∧ w'.ownsRow w.heap.size 3 1 v n (nc row) ∧ q ≤ 8 * s.size ∧ p ≤ q ∧ RdAt w' B gr gx s q most out ∧ KS w w' ∧ Below B w w') ∨ (∃ er, r = .error er ∧ er ≠ 0 ∧ e = .returned (.tuple #[.slice none 0 0, .int .i64 (er : Int)]) ∧ KS w w' ∧ Below B w w') := by
  obtain ⟨i0, hi, hz0, hz1, hz2⟩ := info_parts Tryz.infoIq
  obtain ⟨hL15, hLl, hLf⟩ := hLs
  have hB0 := hR.size
  have HR0 : Hid (RdAt w B gr gx s p most out) := hR
  have HP0 : Hid (Planted w Bt gt ns ns.length) := hP
  have HH : Hid (rowF ns (bF8 s) (8 * s.size) n F p [] = r) := h
  clear hR hP h
  go_enter Tryz.func117, Tryz.ntmps117
  go_wp2
  go_loopw [8] (fun v wr => ∃ (p' F' : Nat) (acc : List Nat), rowF ns (bF8 s) (8 * s.size) n F' p' acc = r ∧ 8 * s.size < p' + F' ∧ p' ≤ 8 * s.size ∧ p ≤ p' ∧ acc.length ≤ n + 140 ∧ wr.ownsRow w.heap.size 3 1 v acc.length (nc acc) ∧ RdAt wr B gr gx s p' most out ∧ KS w wr ∧ Below B w wr) (fun v _ => n + 140 - lenV v)
  case atStart => exact ⟨p, F, [], HH.out, hF, hp, Nat.le_refl _, Nat.zero_le _, World.ownsRow_nil _ _ _ _, HR0.out, KS.refl _, Below.refl _ _⟩
  case round =>
    clear HH
    obtain ⟨p', F', acc, hT, hF', hp', hpp, hacc, hO, hR, hK, hB⟩ := hrel
    obtain ⟨av, cv, rfl⟩ := own_slice hO
    obtain ⟨F2, rfl⟩ : ∃ F2, F' = F2 + 1 := ⟨F' - 1, by omega⟩
    rw [rowF] at hT
    obtain ⟨LEN, hLEN⟩ : ∃ LEN, acc.length = LEN := ⟨_, rfl⟩
    rw [hLEN] at hO hT hacc ⊢
    have HLEN : Hid (acc.length = LEN) := hLEN
    clear hLEN
    have HO : Hid (wr.ownsRow w.heap.size 3 1 (.slice av LEN cv) LEN (nc acc)) := hO
    have HR : Hid (RdAt wr B gr gx s p' most out) := hR
    have HK : Hid (KS w wr) := hK
    have HB : Hid (Below B w wr) := hB
    have r0 := hR.cell0
    clear hO hR hK hB
    by_cases hlt : n ≤ LEN
    · rw [if_pos hlt] at hT
      have hli : ¬ (LEN : Int) < (n : Int) := by omega
      by_cases hgt : n < LEN
      · rw [if_pos hgt] at hT
        have hgi : (n : Int) < (LEN : Int) := by omega
        go_wp2
        go_ret2
        exact .inr ⟨3, hT.symm, by decide, rfl, HK.out, HB.out⟩
      · rw [if_neg hgt] at hT
        have hgi : ¬ (n : Int) < (LEN : Int) := by omega
        obtain rfl : LEN = n := by omega
        go_wp2
        go_ret2
        refine .inl ?_
        exact ⟨acc, p', hT.symm, _, rfl, HLEN.out, HO.out, hp', hpp, HR.out, HK.out, HB.out⟩
    · rw [if_neg hlt] at hT
      have hli : (LEN : Int) < (n : Int) := by omega
      cases hx : nxF ns (bF8 s) (8 * s.size) p' with
      | error er =>
        rw [hx] at hT
        simp only at hT
        have HX : Hid (Calls _ _ _ _ _) := rnext_err B gr gx s p' most out er Bt gt ns wr HR.out hs hp' (HP0.out.ks HK.out) hL15 hLl hLf hx
        clear hx
        go_wp2_with fail
        refine (Hid.out HX : Calls _ _ _ _ _).mono ?_
        rintro e w2 ⟨rfl, her, hK2, hB2, _⟩
        have heri : ((er : Int) != 0) = true := by simpa using her
        have HKE : Hid (KS w w2) := HK.out.trans hK2
        have HBE : Hid (Below B w w2) := HB.out.trans hB2
        clear HX hK2 hB2 r0
        go_wp2
        go_ret2
        exact .inr ⟨er, hT.symm, her, rfl, HKE.out, HBE.out⟩
      | ok r1 =>
        obtain ⟨sym, p1⟩ := r1
        rw [hx] at hT
        simp only at hT
        obtain ⟨hsl, hp1a, hp1b⟩ := nxF_ok hL15 hp' hx
        have HX : Hid (Calls _ _ _ _ _) := rnext_ok B gr gx s p' most out sym p1 Bt gt ns wr HR.out hs hp' (HP0.out.ks HK.out) hL15 hLl hLf hx
        clear hx
        go_wp2_with fail
        refine (Hid.out HX : Calls _ _ _ _ _).mono ?_
        rintro e w2 ⟨rfl, hR2, hK2, hB2⟩
        have HK2 : Hid (KS w w2) := HK.out.trans hK2
        have HB2 : Hid (Below B w w2) := HB.out.trans hB2
        have HR2 : Hid (RdAt w2 B gr gx s p1 most out) := hR2
        have HO2 : Hid (w2.ownsRow w.heap.size 3 1 (.slice av LEN cv) LEN (nc acc)) := own_ks HO.out hK2 (by decide) (by decide)
        clear HX hK2 hB2 hR2 r0 HO HR HK HB
        by_cases h16 : sym = 16 ∧ LEN = 0
        · rw [if_pos h16] at hT
          obtain ⟨rfl, h0⟩ := h16
          have h0i : ((LEN : Int) == 0) = true := by rw [h0]; rfl
          go_wp2
          go_ret2
          exact .inr ⟨3, hT.symm, by decide, rfl, HK2.out, HB2.out⟩
        · rw [if_neg h16] at hT
          have htm := tmF_bd sym
          have HTM : Hid (∀ W, Calls Tryz.prog 128 #[.int .i64 (sym : Int)] W fun e w' => e = .returned (.tuple #[.int .i64 ((tmF sym).1 : Int), .int .i64 ((tmF sym).2 : Int)]) ∧ w' = W) := fun W => times_any sym W
          have HTD : Hid (∀ W, W.ownsRow w.heap.size 3 1 (.slice av LEN cv) LEN (nc acc) → Calls Tryz.prog 129 #[.slice av LEN cv, .int .i64 (sym : Int)] W fun e w' => e = .returned (.int .i64 (toldF acc sym : Int)) ∧ w' = W) := fun W hW => told_any w.heap.size 0 _ acc sym W (by rw [HLEN.out]; exact hW) (by rw [HLEN.out]; omega) (fun e => by
            rw [HLEN.out]
            rcases Nat.eq_zero_or_pos LEN with h | h
            · exact absurd ⟨e, h⟩ h16
            · exact h)
          have hpick : (sym = 16 ∧ ¬ LEN = 0) ∨ ¬ sym = 16 := by
            by_cases e : sym = 16
            · exact .inl ⟨e, fun h => h16 ⟨e, h⟩⟩
            · exact .inr e
          cases ht : tkF (bF8 s) (8 * s.size) p1 (tmF sym).2 with
          | error er =>
            rw [ht] at hT
            simp only at hT
            have her : er ≠ 0 := by rw [(tkF_err ht).2]; decide
            have heri : ((er : Int) != 0) = true := by simpa using her
            have HTK : Hid (Calls _ _ _ _ _) := rtake_err B gr gx s p1 most out (tmF sym).2 er w2 HR2.out hs (by omega) hp1b ht
            clear ht h16 HTD
            generalize (tmF sym).1 = A1 at *
            generalize (tmF sym).2 = A2 at *
            rcases hpick with ⟨hsy, hal⟩ | hsy
            · have hsi : ((sym : Int) == 16) = true := by simp; omega
              clear hsy
              have hai : ((LEN : Int) == 0) = false := by simp; omega
              go_wp2_with fail
              refine (HTM.out _).mono ?_
              rintro e w3 ⟨rfl, hw3⟩
              obtain rfl : w2 = w3 := hw3.symm
              go_wp2_with fail
              refine (Hid.out HTK : Calls _ _ _ _ _).mono ?_
              rintro e w4 ⟨rfl, hK4, hB4⟩
              have HKE : Hid (KS w w4) := HK2.out.trans hK4
              have HBE : Hid (Below B w w4) := HB2.out.trans hB4
              clear HTK HTM hK4 hB4 hw3
              go_wp2
              go_ret2
              exact .inr ⟨er, hT.symm, her, rfl, HKE.out, HBE.out⟩
            · have hsi : ((sym : Int) == 16) = false := by simp; omega
              go_wp2_with fail
              refine (HTM.out _).mono ?_
              rintro e w3 ⟨rfl, hw3⟩
              obtain rfl : w2 = w3 := hw3.symm
              go_wp2_with fail
              refine (Hid.out HTK : Calls _ _ _ _ _).mono ?_
              rintro e w4 ⟨rfl, hK4, hB4⟩
              have HKE : Hid (KS w w4) := HK2.out.trans hK4
              have HBE : Hid (Below B w w4) := HB2.out.trans hB4
              clear HTK HTM hK4 hB4 hw3
              go_wp2
              go_ret2
              exact .inr ⟨er, hT.symm, her, rfl, HKE.out, HBE.out⟩
          | ok m =>
            rw [ht] at hT
            simp only at hT
            obtain ⟨hml, hmv⟩ := tkF_ok ht
            have hm128 : m < 128 := by
              have := takeN_lt (fun i => bF8 s (p1 + i)) (tmF sym).2
              have h7 : 2 ^ (tmF sym).2 ≤ 2 ^ 7 := Nat.pow_le_pow_right (by decide) htm.2.2
              omega
            have HTK : Hid (Calls _ _ _ _ _) := rtake_ok B gr gx s p1 most out (tmF sym).2 m w2 HR2.out hs (by omega) ht
            have HMN : Hid (∀ W, Calls Tryz.prog 78 #[.int .i64 (toldF acc sym : Int), .int .i64 (((tmF sym).1 + m : Nat) : Int)] W fun e w' => ∃ g, e = .returned (.slice (some ⟨g, 0, none⟩) ((tmF sym).1 + m) ((tmF sym).1 + m)) ∧ w'.ownsRow W.heap.size 3 1 (.slice (some ⟨g, 0, none⟩) ((tmF sym).1 + m) ((tmF sym).1 + m)) ((tmF sym).1 + m) (nc (List.replicate ((tmF sym).1 + m) (toldF acc sym))) ∧ Below W.heap.size W w') := fun W => many_any (toldF acc sym) ((tmF sym).1 + m) W (by omega) (by omega)
            have HRP : Hid ((List.replicate ((tmF sym).1 + m) (toldF acc sym)).length = (tmF sym).1 + m) := List.length_replicate
            clear ht h16 hmv
            have hadd : ((tmF sym).1 : Int) + (m : Int) = (((tmF sym).1 + m : Nat) : Int) := by omega
            generalize List.replicate ((tmF sym).1 + m) (toldF acc sym) = NW at *
            generalize toldF acc sym = TD at *
            generalize hNN : (tmF sym).1 + m = NN at *
            have hNb : 1 ≤ NN ∧ NN ≤ 138 := by omega
            clear hNN
            generalize (tmF sym).1 = A1 at *
            generalize (tmF sym).2 = A2 at *
            have hgate : ∀ b : Bool, ((sym : Int) == 16) = b → b = true → ((LEN : Int) == 0) = false := fun b hb hb2 => by
              rcases hpick with ⟨_, hal⟩ | hsy
              · simp; omega
              · rw [hb2] at hb; simp at hb; omega
            cases hq : ((sym : Int) == 16)
            all_goals
              have hgq := hgate _ hq
              try (have hai := hgq rfl)
              clear hgq hgate hpick
              go_wp2_with fail
              refine (HTM.out _).mono ?_
              rintro e w3 ⟨rfl, hw3⟩
              obtain rfl : w2 = w3 := hw3.symm
              go_wp2_with fail
              refine (Hid.out HTK : Calls _ _ _ _ _).mono ?_
              rintro e w4 ⟨rfl, hR4, hK4, hB4⟩
              have HO4 : Hid (w4.ownsRow w.heap.size 3 1 (.slice av LEN cv) LEN (nc acc)) := own_ks HO2.out hK4 (by decide) (by decide)
              have HK4 : Hid (KS w w4) := HK2.out.trans hK4
              have HB4 : Hid (Below B w w4) := HB2.out.trans hB4
              have HR4 : Hid (RdAt w4 B gr gx s (p1 + A2) most out) := hR4
              clear HTK HTM hR4 hK4 hB4 hw3 HO2 HR2 HK2 HB2
              go_wp2_with fail
              refine (HTD.out _ HO4.out).mono ?_
              rintro e w5 ⟨rfl, hw5⟩
              obtain rfl : w4 = w5 := hw5.symm
              clear hw5 HTD
              go_wp2_with fail
              refine (HMN.out _).mono ?_
              rintro e w6 ⟨g, rfl, hO6, hB6⟩
              have hgl := (hO6.lt g rfl).2
              have HN : Hid (∀ j u, (nc NW)[j]? = some u → w6.cell? ((⟨g, 0, none⟩ : Addr).add j) = some u) := fun j u hu => by
                have hadd : (⟨g, 0, none⟩ : Addr).add j = ⟨g, j, none⟩ := by unfold Addr.add; split <;> simp_all
                have hj : j < NW.length := by have := (List.getElem?_eq_some_iff.1 hu).1; rwa [nc_len] at this
                rw [hadd, hO6.cellAt j (by rw [HRP.out] at hj; omega)]; exact hu
              have HONE : Hid (∀ u ∈ nc NW, u.oneCell' = true) := nc_one _
              have HLN : Hid ((nc NW).length = NN * 1) := by unfold Hid; rw [nc_len, HRP.out, Nat.mul_one]
              have HO7 : Hid (w6.ownsRow w.heap.size 3 1 (.slice av LEN cv) LEN (nc acc)) := own_below HO4.out hB6
              have HK7 : Hid (KS w w6) := HK4.out.trans (ks_below hB6)
              have hsw : w.heap.size ≤ w4.heap.size := HB4.out.size
              have hsw6 : w.heap.size ≤ w6.heap.size := Nat.le_trans hsw hB6.size
              have HB7 : Hid (Below B w w6) := HB4.out.trans (hB6.mono (by omega))
              have HR7 : Hid (RdAt w6 B gr gx s (p1 + A2) most out) := HR4.out.below hB6
              clear hO6 hB6 HO4 HK4 HB4 HR4 HMN
              go_wp2_with (at_builtin; refine wpList_append_own _ rfl _ _ 40 rfl w.heap.size 3 i0 (.int .i64 0) 1 8 Tryz.underlying40 hi hz0 hz1 hz2 rfl (by decide) _ _ _ rfl HO7.out ⟨g, 0, none⟩ NN NN (nc NW) rfl HLN.out HN.out HONE.out (by unfold maxLen; omega) (by omega) hsw6 ?_)
              intro v8 w8 hown8 hg8 _
              have hO8 : w8.ownsRow w.heap.size 3 1 v8 (acc ++ NW).length (nc (acc ++ NW)) := by rw [nc_app, List.length_append, HRP.out, HLEN.out]; exact hown8
              have HO8 : Hid (w8.ownsRow w.heap.size 3 1 v8 (acc ++ NW).length (nc (acc ++ NW))) := hO8
              have HR8 : Hid (RdAt w8 B gr gx s (p1 + A2) most out) := HR7.out.appI HO7.out hg8
              have HK8 : Hid (KS w w8) := ks_app HK7.out HO7.out (Nat.le_refl _) hg8
              have HB8 : Hid (Below B w w8) := HB7.out.grown hg8 (by omega) (fun q hq => by have := (HO7.out.lt q hq).1; omega)
              have HLL : Hid ((acc ++ NW).length = LEN + NN) := by unfold Hid; rw [List.length_append, HRP.out, HLEN.out]
              obtain ⟨a8, c8, rfl⟩ := own_slice hO8
              clear hown8 hg8 hO8 HO7 HR7 HK7 HB7 HN
              go_wp2
              go_roundw
              case rel => exact ⟨p1 + A2, F2, acc ++ NW, hT, by omega, hml, by omega, by rw [HLL.out]; omega, HO8.out, HR8.out, HK8.out, HB8.out⟩
              case measure => simp only [lenV]; rw [HLL.out]; omega
end Go.Proofs.YtbknflckdbfogaaGreat
