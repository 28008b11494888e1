/- Contract of the document's Least. -/
import Derived.Test.YtclmjopppaknjaaRLst
import Derived.Test.YtclmjopppaknjaaRLeaM
import Derived.Test.YtclmjopppaknjaaHRis
namespace Go.Proofs.Ytclmjopppaknjaa
open Go.RowKit
set_option linter.unusedVariables false
set_option linter.unusedSimpArgs false

theorem stI_len (n : Nat) (l : List Nat) : ∀ j, (stI n l j).1.length = j + if (stI n l j).2 = true then 1 else 0
  | 0 => rfl
  | j + 1 => by
    have ih := stI_len n l j
    rw [stI]
    split
    · rename_i q
      rw [q.1] at ih
      simp at ih ⊢
      omega
    · simp only [List.length_append, List.length_cons, List.length_nil]
      omega
theorem stI_le (n : Nat) (l : List Nat) (j : Nat) : (stI n l j).1.length ≤ j + 1 := by
  have := stI_len n l j
  split at this <;> omega
theorem posL_mono (zs : List Int) : ∀ j k, j ≤ k → (posL zs j).length ≤ (posL zs k).length
  | j, 0, h => by have : j = 0 := by omega
                  subst this; exact Nat.le_refl _
  | j, k + 1, h => by
    by_cases e : j = k + 1
    · subst e; exact Nat.le_refl _
    · have ih := posL_mono zs j k (by omega)
      by_cases q : 0 < zs.getD k 0
      · rw [posL_yes q, List.length_append]; omega
      · rw [posL_no q]; exact ih
theorem fallK_le (zs : List Int) (h : ∀ z ∈ zs, z ≤ 1000000) (k : Nat) (hk : k ≤ zs.length) : ∀ x ∈ fallK zs k, x ≤ 1000000 := fun x hx => by
  have := (fallK_perm zs k).mem_iff.1 hx
  obtain ⟨i, hi, rfl⟩ := List.mem_map.1 this
  have hl := (posL_mem.1 hi).1
  have hz := h (zs.getD i 0) (by rw [List.getD_eq_getElem?_getD, List.getElem?_eq_getElem (by omega)]; simp)
  omega
set_option maxRecDepth 100000 in
set_option maxHeartbeats 2000000 in
theorem leastL_any (v : Value) (zs : List Int) (most : Nat) (w : World) (hR : IQ w v zs) (hl : zs.length ≤ 320) (hm1 : 1 ≤ most) (hm : most ≤ 15) (hM : ∀ z ∈ zs, z ≤ 1000000) (h9 : (posL zs zs.length).length ≤ 9) :
    Calls Try.prog 12 #[v, .int .i64 (most : Int)] w fun e w' => e = .returned (.int .i64 (lst most most (fallK zs zs.length) 2)) ∧ Below w.heap.size w w' := by
  obtain ⟨i0, hi, hz0, hz1, hz2⟩ := info_parts Try.infoI
  obtain ⟨g, o, cap, rfl, hg, hc⟩ := hR
  have HC : Hid (∀ i, i < zs.length → w.cell? ⟨g, o + i, none⟩ = some (.int .i64 (zs.getD i 0))) := hc
  have HF9 : Hid (∀ k, k ≤ zs.length → (fallK zs k).length ≤ 9) := fun k hk => by rw [fallK_len]; exact Nat.le_trans (posL_mono zs k _ hk) h9
  have HFM : Hid (∀ k, k ≤ zs.length → ∀ x ∈ fallK zs k, x ≤ 1000000) := fun k hk => fallK_le zs hM k hk
  clear hc
  go_enter Try.func12, Try.ntmps12
  go_wp2
  go_loopw [5, 15] (fun v i wr => ∃ k : Nat, k ≤ zs.length ∧ i = .int .i64 (k : Int) ∧ NR wr v (fallK zs k) ∧ Below w.heap.size w wr) (fun _ i _ => zs.length - (intOf i).toNat)
  case atStart => exact ⟨0, by omega, rfl, ⟨_, 0, rfl, by simp [fallK], fun h => absurd rfl h⟩, (Below.refl _ w).alloc (Nat.le_refl _) _⟩
  case round =>
    obtain ⟨k, hk, rfl, hN, hbel⟩ := hrel
    by_cases hlt : k < zs.length
    · have hki : (k : Int) < (zs.length : Int) := by omega
      have hck : wr.cell? ⟨g, o + k, none⟩ = some (.int .i64 (zs.getD k 0)) := by rw [hbel.cell (p := ⟨g, o + k, none⟩) hg]; exact HC.out k hlt
      by_cases hp : 0 < zs.getD k 0
      · obtain ⟨n, hn⟩ : ∃ n : Nat, (n : Int) = zs.getD k 0 := ⟨(zs.getD k 0).toNat, by omega⟩
        have HX : Hid (fallK zs (k + 1) = insF n (fallK zs k)) := by unfold Hid; rw [fallK, if_pos hp, ← hn]; rfl
        rw [← hn] at hck hp
        have h9k := HF9.out k hk
        generalize fallK zs k = l at *
        clear hn
        have hp0 : 0 < n := by omega
        obtain ⟨w2, e2⟩ : ∃ w2, w2 = wr := ⟨_, rfl⟩
        subst e2
        obtain ⟨a5, c5, rfl, hc5, hf5⟩ := hN
        have HF5 : Hid (∀ j, j < l.length → ∃ g5 o5, a5 = some ⟨g5, o5, none⟩ ∧ g5 < w2.heap.size ∧ w2.cell? ⟨g5, o5 + j, none⟩ = some (.int .i64 (l.getD j 0 : Int))) := fun j hj => by
          obtain ⟨g5, o5, q1, q2, q3⟩ := hf5 (fun e => by rw [e] at hj; simp at hj)
          exact ⟨g5, o5, q1, q2, q3 j hj⟩
        clear hf5
        go_wp2
        go_loopw [8, 9, 24] (fun v d i wr => ∃ j : Nat, j ≤ l.length ∧ i = .int .i64 (j : Int) ∧ d = .bool (stI n l j).2 ∧ (stI n l j).1.length ≤ j + 1 ∧ wr.ownsRow w2.heap.size 3 1 v (stI n l j).1.length (nc (stI n l j).1) ∧ Below w2.heap.size w2 wr) (fun _ _ i _ => l.length - (intOf i).toNat)
        case atStart => exact ⟨0, by omega, rfl, rfl, by simp [stI], World.ownsRow_made _ _ _ (Nat.le_refl _) (by decide) rfl, (Below.refl _ w2).alloc (Nat.le_refl _) _⟩
        case round =>
          obtain ⟨j, hj, rfl, rfl, hsl, hown, hb3⟩ := hrel
          by_cases hjl : j < l.length
          · obtain ⟨g5, o5, rfl, hg5, hc5j⟩ := HF5.out j hjl
            have hji : (j : Int) < (l.length : Int) := by omega
            have hcj : wr.cell? ⟨g5, o5 + j, none⟩ = some (.int .i64 (l.getD j 0 : Int)) := by rw [hb3.cell (p := ⟨g5, o5 + j, none⟩) hg5]; exact hc5j
            have HS : Hid (stI n l (j + 1) = if (stI n l j).2 = false ∧ l.getD j 0 < n then ((stI n l j).1 ++ [n] ++ [l.getD j 0], true) else ((stI n l j).1 ++ [l.getD j 0], (stI n l j).2)) := by unfold Hid; rw [stI]
            obtain ⟨A, hA⟩ : ∃ A, (stI n l j).1 = A := ⟨_, rfl⟩
            obtain ⟨D, hD⟩ : ∃ D, (stI n l j).2 = D := ⟨_, rfl⟩
            rw [hA, hD] at HS
            rw [hA] at hown hsl
            rw [hD]
            clear hA hD
            generalize l.getD j 0 = x at *
            by_cases hq : D = false ∧ x < n
            · rw [if_pos hq] at HS
              obtain ⟨rfl, hxn⟩ := hq
              have hxi : (x : Int) < (n : Int) := by omega
              go_wp2_with (at_builtin; refine wpList_append_own _ rfl _ _ 22 rfl w2.heap.size 3 i0 (.int .i64 0) 1 8 Try.underlying22 hi hz0 hz1 hz2 rfl (by decide) _ _ _ rfl (hown.alloc _) ⟨wr.heap.size, 0, none⟩ 1 1 [.int .i64 (n : Int)] rfl rfl (cell_one_new _ _ _) ?c2 ?c3 ?c4 ?c5 ?_)
              case c2 => first | rfl | (intro u hu; simp at hu; subst hu; rfl)
              case c3 => unfold maxLen; omega
              case c4 => omega
              case c5 => have := hb3.size; simp; omega
              intro v4 w4 hown4 hg4 _
              have hb4 := bel_append hb3 (below_size hb3 (Nat.le_refl _)) hown hg4
              clear hown hb3 hg4
              go_wp2_with (at_builtin; refine wpList_append_own _ rfl _ _ 22 rfl w2.heap.size 3 i0 (.int .i64 0) 1 8 Try.underlying22 hi hz0 hz1 hz2 rfl (by decide) _ _ _ rfl (hown4.alloc _) ⟨w4.heap.size, 0, none⟩ 1 1 [.int .i64 (x : Int)] rfl rfl (cell_one_new _ _ _) ?d2 ?d3 ?d4 ?d5 ?_)
              case d2 => first | rfl | (intro u hu; simp at hu; subst hu; rfl)
              case d3 => unfold maxLen; omega
              case d4 => omega
              case d5 => have := hb4.size; simp; omega
              intro v5 w5 hown5 hg5' _
              have hb5 := bel_append hb4 (below_size hb4 (Nat.le_refl _)) hown4 hg5'
              have ho5 : w5.ownsRow w2.heap.size 3 1 v5 (stI n l (j + 1)).1.length (nc (stI n l (j + 1)).1) := by
                rw [HS.out]; simpa [nc] using hown5
              clear hown4 hb4 hg5' hown5
              go_wp2
              go_roundw
              case rel => exact ⟨j + 1, by omega, by go_num, by rw [HS.out], stI_le n l (j + 1), ho5, hb5⟩
              case measure => simp [intOf]; omega
            · rw [if_neg hq] at HS
              have hcase : D = true ∨ (D = false ∧ ¬ (x : Int) < (n : Int)) := by
                cases D
                · right; exact ⟨rfl, fun z => hq ⟨rfl, by omega⟩⟩
                · left; rfl
              rcases hcase with rfl | ⟨rfl, hxi⟩
              all_goals
                go_wp2_with (at_builtin; refine wpList_append_own _ rfl _ _ 22 rfl w2.heap.size 3 i0 (.int .i64 0) 1 8 Try.underlying22 hi hz0 hz1 hz2 rfl (by decide) _ _ _ rfl (hown.alloc _) ⟨wr.heap.size, 0, none⟩ 1 1 [.int .i64 (x : Int)] rfl rfl (cell_one_new _ _ _) ?d2 ?d3 ?d4 ?d5 ?_)
                case d2 => first | rfl | (intro u hu; simp at hu; subst hu; rfl)
                case d3 => unfold maxLen; omega
                case d4 => omega
                case d5 => have := hb3.size; simp; omega
                intro v5 w5 hown5 hg5' _
                have hb5 := bel_append hb3 (below_size hb3 (Nat.le_refl _)) hown hg5'
                have ho5 : w5.ownsRow w2.heap.size 3 1 v5 (stI n l (j + 1)).1.length (nc (stI n l (j + 1)).1) := by
                  rw [HS.out]; simpa [nc] using hown5
                clear hown hb3 hg5' hown5
                go_wp2
                go_roundw
                case rel => exact ⟨j + 1, by omega, by go_num, by rw [HS.out], stI_le n l (j + 1), ho5, hb5⟩
                case measure => simp [intOf]; omega
          · obtain rfl : j = l.length := by omega
            have hbF := hbel.trans (hb3.mono hbel.size)
            have HI : Hid (insF n l = if (stI n l l.length).2 = true then (stI n l l.length).1 else (stI n l l.length).1 ++ [n]) := rfl
            obtain ⟨A, hA⟩ : ∃ A, (stI n l l.length).1 = A := ⟨_, rfl⟩
            obtain ⟨D, hD⟩ : ∃ D, (stI n l l.length).2 = D := ⟨_, rfl⟩
            rw [hA, hD] at HI
            rw [hA] at hown hsl
            rw [hD]
            clear hA hD
            cases D
            · rw [if_neg (by simp)] at HI
              go_wp2_with (at_builtin; refine wpList_append_own _ rfl _ _ 22 rfl w2.heap.size 3 i0 (.int .i64 0) 1 8 Try.underlying22 hi hz0 hz1 hz2 rfl (by decide) _ _ _ rfl (hown.alloc _) ⟨wr.heap.size, 0, none⟩ 1 1 [.int .i64 (n : Int)] rfl rfl (cell_one_new _ _ _) ?d2 ?d3 ?d4 ?d5 ?_)
              case d2 => first | rfl | (intro u hu; simp at hu; subst hu; rfl)
              case d3 => unfold maxLen; omega
              case d4 => omega
              case d5 => have := hb3.size; simp; omega
              intro v5 w5 hown5 hg5' _
              have hb5 := bel_append hb3 (below_size hb3 (Nat.le_refl _)) hown hg5'
              have hbG := hbel.trans (hb5.mono hbel.size)
              have hN5 : NR w5 v5 (fallK zs (k + 1)) := by
                rw [HX.out, HI.out]
                refine rows_nums (B := w2.heap.size) (n := A.length + 1) ?_
                rw [nc_snoc]; exact hown5
              clear hown hb3 hg5' hown5 hb5 hbF
              go_wp2
              go_roundw
              case rel => exact ⟨k + 1, by omega, by go_num, hN5, hbG⟩
              case measure => simp [intOf]; omega
            · rw [if_pos rfl] at HI
              have hN5 := rows_nums hown
              rw [← HI.out, ← HX.out] at hN5
              clear hown hb3
              go_wp2
              go_roundw
              case rel => exact ⟨k + 1, by omega, by go_num, hN5, hbF⟩
              case measure => simp [intOf]; omega
      · have HX : Hid (fallK zs (k + 1) = fallK zs k) := by unfold Hid; rw [fallK, if_neg hp]
        generalize zs.getD k 0 = z at *
        rw [← HX.out] at hN
        go_wp2
        go_roundw
        case rel => exact ⟨k + 1, by omega, by go_num, hN, hbel⟩
        case measure => simp [intOf]; omega
    · obtain rfl : k = zs.length := by omega
      have HL : Hid (Calls _ _ _ _ _) := least_any most hm most (Nat.le_refl _) _ _ 2 wr hN (HF9.out _ hk) (HFM.out _ hk) (by omega)
      rw [show most + 1 - most = 1 by omega] at HL
      obtain ⟨a5, c5, rfl, _, _⟩ := hN
      go_wp2_with fail
      refine (Hid.out HL : Calls _ _ _ _ _).mono ?_
      rintro e w9 ⟨rfl, rfl⟩
      go_wp2
      go_ret
      exact ⟨rfl, hbel⟩
end Go.Proofs.Ytclmjopppaknjaa
