/- Contract of the reader's firstCodes. -/
import Derived.Test.YtdmnmclhfeoghabInfF
namespace Go.Proofs.Ytdmnmclhfeoghab
open Go.RowKit
set_option linter.unusedVariables false

theorem ord_at : ∀ k : Fin 19, ordL.idxOf (ordL.getD k.val 0) = k.val ∧ ordL.getD k.val 0 < 19 := by decide +kernel
theorem ord_next : ∀ k t : Fin 19, (ordL.idxOf t.val < k.val + 1) = (ordL.idxOf t.val < k.val ∨ t.val = ordL.getD k.val 0) := by
  have h : ∀ k t : Fin 19, (ordL.idxOf t.val < k.val + 1) ↔ (ordL.idxOf t.val < k.val ∨ t.val = ordL.getD k.val 0) := by decide +kernel
  intro k t
  exact propext (h k t)
theorem fstL_len (f : Nat → Bool) (p k : Nat) : (fstL f p k).length = 19 := by simp [fstL]
theorem fstL_set (f : Nat → Bool) (p k : Nat) (hk : k < 19) : (nc (fstL f p k)).set (ordL.getD k 0) (.int .i64 (takeN (fun i => f (p + 3 * k + i)) 3 : Int)) = nc (fstL f p (k + 1)) := by
  apply List.ext_getElem?
  intro i
  rw [List.getElem?_set]
  unfold nc fstL
  by_cases hi : i < 19
  · simp only [List.map_map, List.length_map, List.length_range, List.getElem?_map, List.getElem?_range hi, Option.map_some, Function.comp_apply]
    have hn := ord_next ⟨k, hk⟩ ⟨i, hi⟩
    have ha := ord_at ⟨k, hk⟩
    simp only at hn ha
    by_cases e : ordL.getD k 0 = i
    · rw [if_pos e, if_pos ha.2]
      have h1 : ordL.idxOf i = k := by rw [← e]; exact ha.1
      rw [if_pos (by rw [h1]; omega), h1]
    · rw [if_neg e]
      by_cases h2 : ordL.idxOf i < k
      · rw [if_pos h2, if_pos (by omega)]
      · rw [if_neg h2, if_neg (fun h => by rw [hn] at h; exact h.elim h2 (fun q => e q.symm))]
  · rw [List.getElem?_eq_none (by simp; omega), List.getElem?_eq_none (by simp; omega)]
    split
    · rename_i e
      have := (ord_at ⟨k, hk⟩).2
      simp only at this
      omega
    · rfl
theorem fstL_zero (f : Nat → Bool) (p : Nat) : madeCells #[Value.int .i64 0] 19 = (nc (fstL f p 0)).toArray := by
  apply Array.ext'
  rw [toList_madeCells_one]
  unfold nc fstL
  rw [List.map_map]
  rfl
theorem IO_cells {w : World} {g : Nat} {ns : List Nat} (h : w.heap[g]? = some (.cells (nc ns).toArray 3 (0, 0))) (n : Nat) (hn : n = ns.length) : IQ w (.slice (some ⟨g, 0, none⟩) n n) (zz ns) := by
  subst hn
  refine ⟨g, 0, ns.length, by rw [zz_len], (Array.getElem?_eq_some_iff.1 h).1, fun i hi => ?_⟩
  rw [zz_len] at hi
  rw [Nat.zero_add, cell_of_row _ _ _ _ _ _ h, List.getElem?_toArray, nc_at ns i hi, zz_at]
theorem foreignI : Foreign 3 := by unfold Foreign; decide
set_option maxRecDepth 100000 in
set_option maxHeartbeats 4000000 in
theorem first_any (B gr gx : Nat) (s : ByteArray) (p most out n : Nat) (w : World) (hR : RdAt w B gr gx s p most out) (hs : s.size ≤ 100000000) (hp : p ≤ 8 * s.size) (hn : n ≤ 19) :
    Calls Try.prog 93 #[.pointer (some ⟨gr, 0, none⟩), .int .i64 (n : Int)] w fun e w' => (8 * s.size < p + 3 * n ∧ e = .returned (.tuple #[.pointer none, .int .i64 6]) ∧ KS w w' ∧ Below B w w') ∨ (p + 3 * n ≤ 8 * s.size ∧ fitE (fstL (bF8 s) p n) = false ∧ e = .returned (.tuple #[.pointer none, .int .i64 3]) ∧ KS w w' ∧ Below B w w') ∨ (p + 3 * n ≤ 8 * s.size ∧ fitE (fstL (bF8 s) p n) = true ∧ ∃ B1 t, e = .returned (.tuple #[.pointer (some ⟨t, 0, none⟩), .int .i64 0]) ∧ Planted w' B1 t (fstL (bF8 s) p n) 19 ∧ RdAt w' B gr gx s (p + 3 * n) most out ∧ KS w w' ∧ Below B w w') := by
  have hB0 := hR.size
  have hmk : ∀ W : World, (Instr.makeSlice 46 (.int .i64 19) (.int .i64 19)).run Try.prog W = .ok (.slice (some ⟨W.heap.size, 0, none⟩) 19 19) (W.alloc (.cells (madeCells #[.int .i64 0] 19) 3)) := make_ints 19 (by decide)
  have hA1 : Below w.heap.size w (w.alloc (.cells (nc ordL).toArray 3)) := (Below.refl _ w).alloc (Nat.le_refl _) _
  have hA2 : Below w.heap.size w ((w.alloc (.cells (nc ordL).toArray 3)).alloc (.cells (madeCells #[.int .i64 0] 19) 3)) := hA1.alloc hA1.size _
  have HA2 : Hid (Below w.heap.size w ((w.alloc (.cells (nc ordL).toArray 3)).alloc (.cells (madeCells #[.int .i64 0] 19) 3))) := hA2
  have HR2 : Hid (RdAt ((w.alloc (.cells (nc ordL).toArray 3)).alloc (.cells (madeCells #[.int .i64 0] 19) 3)) B gr gx s p most out) := hR.below hA2
  have HO2 : Hid (((w.alloc (.cells (nc ordL).toArray 3)).alloc (.cells (madeCells #[.int .i64 0] 19) 3)).heap[w.heap.size]? = some (.cells (nc ordL).toArray 3 (0, 0))) := (heap_alloc_old _ _ (by rw [World.size_alloc]; omega)).trans (heap_alloc_new w _)
  have HL2 : Hid (((w.alloc (.cells (nc ordL).toArray 3)).alloc (.cells (madeCells #[.int .i64 0] 19) 3)).heap[w.heap.size + 1]? = some (.cells (nc (fstL (bF8 s) p 0)).toArray 3 (0, 0))) := by
    unfold Hid
    rw [← fstL_zero]
    have := heap_alloc_new (w.alloc (.cells (nc ordL).toArray 3)) (.cells (madeCells #[.int .i64 0] 19) 3)
    rw [World.size_alloc] at this; exact this
  have hni : (n : Int) ≤ 19 := by omega
  have hni0 : (0 : Int) ≤ (n : Int) := by omega
  clear hA1 hA2 hR
  go_enter Try.func93, Try.ntmps93
  go_wp2_with fail
  refine (order_any w).mono ?_
  rintro e w1 ⟨rfl, rfl⟩
  go_wp2
  generalize World.alloc (World.alloc w _) _ = W2 at *
  clear hmk
  go_loopw [20] (fun i wr => ∃ k : Nat, k ≤ n ∧ i = .int .i64 (k : Int) ∧ p + 3 * k ≤ 8 * s.size ∧ wr.heap[w.heap.size]? = some (.cells (nc ordL).toArray 3 (0, 0)) ∧ wr.heap[w.heap.size + 1]? = some (.cells (nc (fstL (bF8 s) p k)).toArray 3 (0, 0)) ∧ RdAt wr B gr gx s (p + 3 * k) most out ∧ KS w wr ∧ Below B w wr) (fun i _ => n - (intOf i).toNat)
  case atStart => exact ⟨0, by omega, rfl, by omega, HO2.out, HL2.out, HR2.out, ks_below HA2.out, HA2.out.mono hB0⟩
  case round =>
    clear HA2 HR2 HO2 HL2
    obtain ⟨k, hk, rfl, hpk, hO, hL, hR, hK, hB⟩ := hrel
    by_cases hlt : k < n
    · have hki : (k : Int) < (n : Int) := by omega
      have hki0 : (0 : Int) ≤ (k : Int) := by omega
      obtain ⟨_, hs19⟩ := ord_at ⟨k, by omega⟩
      simp only at hs19
      have co : wr.cell? ⟨w.heap.size, k, none⟩ = some (.int .i64 (ordL.getD k 0 : Int)) := by
        rw [cell_of_row _ _ _ _ _ _ hO, List.getElem?_toArray, nc_at ordL k (by show k < 19; omega)]
      have HFS : Hid _ := fstL_set (bF8 s) p k (by omega)
      have HR : Hid (RdAt wr B gr gx s (p + 3 * k) most out) := hR
      have HO : Hid (wr.heap[w.heap.size]? = some (.cells (nc ordL).toArray 3 (0, 0))) := hO
      have HL : Hid (wr.heap[w.heap.size + 1]? = some (.cells (nc (fstL (bF8 s) p k)).toArray 3 (0, 0))) := hL
      have HK : Hid (KS w wr) := hK
      have HB : Hid (Below B w wr) := hB
      clear hO hL hR hK hB
      generalize ordL.getD k 0 = sy at *
      cases ht : tkF (bF8 s) (8 * s.size) (p + 3 * k) 3 with
      | error er =>
        have hte := tkF_err ht
        obtain ⟨hsh, rfl⟩ := hte
        have HT : Hid (Calls _ _ _ _ _) := rtake_err B gr gx s (p + 3 * k) most out 3 6 wr HR.out hs (by decide) hpk ht
        clear ht
        go_wp2_with fail
        refine (Hid.out HT : Calls _ _ _ _ _).mono ?_
        rintro e w3 ⟨rfl, hK3, hB3⟩
        have HK3 : Hid (KS w w3) := HK.out.trans hK3
        have HB3 : Hid (Below B w w3) := HB.out.trans hB3
        clear hK3 hB3 HT co
        go_wp2
        go_ret2
        exact .inl ⟨by omega, rfl, HK3.out, HB3.out⟩
      | ok x =>
        have hto := tkF_ok ht
        obtain ⟨hle, hxv⟩ := hto
        have HT : Hid (Calls _ _ _ _ _) := rtake_ok B gr gx s (p + 3 * k) most out 3 x wr HR.out hs (by decide) ht
        rw [← hxv] at HFS
        clear ht hxv
        go_wp2_with fail
        refine (Hid.out HT : Calls _ _ _ _ _).mono ?_
        rintro e w3 ⟨rfl, hR3, hK3, hB3⟩
        have hO3 := hK3.2 _ _ _ _ HO.out (by decide) (by decide)
        have hL3 := hK3.2 _ _ _ _ HL.out (by decide) (by decide)
        have hg3 : w3.grownBy (w3.setCell ⟨w.heap.size + 1, sy, none⟩ (.int .i64 (x : Int))) (some (w.heap.size + 1)) := gset (grefl w3 _) sy _
        have hL4 : (w3.setCell ⟨w.heap.size + 1, sy, none⟩ (.int .i64 (x : Int))).heap[w.heap.size + 1]? = some (.cells (nc (fstL (bF8 s) p (k + 1))).toArray 3 (0, 0)) := by
          rw [heap_setCell_same _ _ _ _ _ _ hL3, List.setIfInBounds_toArray, HFS.out]
        obtain ⟨y, cy⟩ : ∃ y, w3.cell? ⟨w.heap.size + 1, sy, none⟩ = some y := by
          refine ⟨(nc (fstL (bF8 s) p k))[sy]'(by rw [nc_len, fstL_len]; exact hs19), ?_⟩
          rw [cell_of_row _ _ _ _ _ _ hL3, List.getElem?_toArray, List.getElem?_eq_getElem (by rw [nc_len, fstL_len]; exact hs19)]
        have fy : w3.frozen? ⟨w.heap.size + 1, sy, none⟩ = false := frozen_of_row _ _ _ _ _ hL3
        have HL4 : Hid _ := hL4
        have HO4 : Hid ((w3.setCell ⟨w.heap.size + 1, sy, none⟩ (.int .i64 (x : Int))).heap[w.heap.size]? = some (.cells (nc ordL).toArray 3 (0, 0))) := (hg3.block w.heap.size (Array.getElem?_eq_some_iff.1 hO3).1 (fun e => by have := Option.some.inj e; omega)).trans hO3
        have HR4 : Hid (RdAt (w3.setCell ⟨w.heap.size + 1, sy, none⟩ (.int .i64 (x : Int))) B gr gx s (p + 3 * k + 3) most out) := hR3.k1 (k1_grown hg3 hL3) foreignI
        have HK4 : Hid (KS w (w3.setCell ⟨w.heap.size + 1, sy, none⟩ (.int .i64 (x : Int)))) := ks_new (HK.out.trans hK3) hg3 (by omega)
        have HB4 : Hid (Below B w (w3.setCell ⟨w.heap.size + 1, sy, none⟩ (.int .i64 (x : Int)))) := (HB.out.trans hB3).setCell (by show B ≤ w.heap.size + 1; omega) _
        have hsyi : (sy : Int) < 19 := by omega
        have hsyi0 : (0 : Int) ≤ (sy : Int) := by omega
        clear hR3 hK3 hB3 hO3 hL3 hg3 hL4 HT co HR HO HL HK HB HFS
        go_wp2
        go_roundw
        case rel => exact ⟨k + 1, by omega, by go_num, by omega, HO4.out, HL4.out, HR4.out, HK4.out, HB4.out⟩
        case measure => simp [intOf]; omega
    · obtain rfl : k = n := by omega
      have hIO := IO_cells hL 19 (by rw [fstL_len])
      cases hft : fitE (fstL (bF8 s) p k)
      · have HT : Hid (Calls _ _ _ _ _) := tree_err _ _ wr hIO (by rw [fstL_len]; decide) hft
        clear hO hL hIO
        have HK : Hid (KS w wr) := hK
        have HB : Hid (Below B w wr) := hB
        clear hK hB hR
        go_wp2_with fail
        refine (Hid.out HT : Calls _ _ _ _ _).mono ?_
        rintro e w3 ⟨rfl, hw3⟩
        obtain rfl : wr = w3 := hw3.symm
        clear HT hw3
        go_wp2
        go_ret2
        exact .inr (.inl ⟨hpk, hft, rfl, HK.out, HB.out⟩)
      · have HT : Hid (Calls _ _ _ _ _) := tree_ok _ _ wr hIO hft
        have HR : Hid (RdAt wr B gr gx s (p + 3 * k) most out) := hR
        have HK : Hid (KS w wr) := hK
        have HB : Hid (Below B w wr) := hB
        have hsz := hR.size
        clear hO hL hIO hR hK hB
        go_wp2_with fail
        refine (Hid.out HT : Calls _ _ _ _ _).mono ?_
        rintro e w3 ⟨B1, t, rfl, hP, hB3⟩
        rw [fstL_len] at hP
        have HP : Hid (Planted w3 B1 t (fstL (bF8 s) p k) 19) := hP
        have HR3 : Hid (RdAt w3 B gr gx s (p + 3 * k) most out) := HR.out.below hB3
        have HK3 : Hid (KS w w3) := HK.out.trans (ks_below hB3)
        have HB3 : Hid (Below B w w3) := HB.out.trans (hB3.mono hsz)
        clear HT hP hB3 HR HK HB
        go_wp2
        go_ret2
        exact .inr (.inr ⟨hpk, hft, B1, t, rfl, HP.out, HR3.out, HK3.out, HB3.out⟩)
end Go.Proofs.Ytdmnmclhfeoghab
