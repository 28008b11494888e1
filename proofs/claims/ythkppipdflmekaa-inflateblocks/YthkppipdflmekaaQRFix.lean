/- Contracts of the document's Fixed and Sizes. -/
import Derived.Test.YthkppipdflmekaaQInfI
import Derived.Laws.OwnMore
namespace Go.Proofs.Ythkppipdflmekaa
open Go.RowKit
set_option linter.unusedVariables false

theorem fixL_at (k : Nat) (h : k < 288) : fixL[k]? = some (if 144 ≤ k ∧ k < 256 then 9 else if 256 ≤ k ∧ k < 280 then 7 else 8) := by
  have key : ∀ k : Fin 288, fixL[k.val]? = some (if 144 ≤ k.val ∧ k.val < 256 then 9 else if 256 ≤ k.val ∧ k.val < 280 then 7 else 8) := by decide +kernel
  exact key ⟨k, h⟩
theorem nc_take (l : List Nat) (k x : Nat) (h : l[k]? = some x) : nc (l.take (k + 1)) = nc (l.take k) ++ [.int .i64 (x : Int)] := by
  unfold nc
  rw [List.take_add_one, h, List.map_append]
  rfl
theorem one_newI (w : World) (x : Nat) : ∀ j u, [Value.int .i64 (x : Int)][j]? = some u → (w.alloc (.cells #[.int .i64 (x : Int)] 3)).cell? ((⟨w.heap.size, 0, none⟩ : Addr).add j) = some u :=
  fun j u hu => by
    have hadd : (⟨w.heap.size, 0, none⟩ : Addr).add j = ⟨w.heap.size, j, none⟩ := by unfold Addr.add; split <;> simp_all
    rw [hadd, cell_of_row _ _ _ _ _ _ (heap_alloc_new w _)]
    simpa using hu
theorem one_oneI (x : Int) : ∀ u ∈ [Value.int .i64 x], u.oneCell' = true := by
  intro u hu
  rw [List.mem_singleton] at hu
  subst hu; rfl
theorem fixD_at (k : Nat) (h : k < 32) : fixD[k]? = some 5 := by
  have key : ∀ k : Fin 32, fixD[k.val]? = some 5 := by decide +kernel
  exact key ⟨k, h⟩
/-- Two rows that begin otherwise lie in two blocks. -/
theorem own_apart {w : World} {B n m : Nat} {v u : Value} {xs ys : List Value} {g : Nat} (h1 : w.ownsRow B 3 1 v n xs) (h2 : w.ownsRow B 3 1 u m ys) (hn : 0 < n) (hm : 0 < m) (hne : xs[0]? ≠ ys[0]?) (hg : u.ownBlock = some g) : some g ≠ v.ownBlock := by
  intro e
  obtain ⟨g1, c1, rfl, _, _, _⟩ := own_frm0 h1 hn
  obtain ⟨g2, c2, rfl, _, _, _⟩ := own_frm0 h2 hm
  simp only [Value.ownBlock, Option.some.injEq] at e hg
  subst e
  subst hg
  exact hne (by rw [← h1.cellAt 0 (by omega), ← h2.cellAt 0 (by omega)])
set_option maxRecDepth 100000 in
set_option maxHeartbeats 2000000 in
theorem rFixed_any (w : World) : Calls Try.prog 17 #[] w fun e w' => ∃ v u, e = .returned (.tuple #[v, u]) ∧ w'.ownsRow w.heap.size 3 1 v 288 (nc fixL) ∧ w'.ownsRow w.heap.size 3 1 u 32 (nc fixD) ∧ Below w.heap.size w w' := by
  obtain ⟨i0, hi, hz0, hz1, hz2⟩ := info_parts Try.infoIq
  go_enter Try.func17, Try.ntmps17
  go_wp2
  have HO0 : Hid (((w.alloc (.cells #[] 3)).alloc (.cells #[] 3)).ownsRow w.heap.size 3 1 (.slice (some ⟨w.heap.size, 0, none⟩) 0 0) 0 (nc (fixL.take 0))) := (World.ownsRow_lit w #[] 0 (Nat.le_refl _) (by decide) rfl).alloc _
  have HE0 : Hid (((w.alloc (.cells #[] 3)).alloc (.cells #[] 3)).heap[w.heap.size + 1]? = some (.cells #[] 3 (0, 0))) := by
    have := heap_alloc_new (w.alloc (.cells #[] 3)) (.cells #[] 3)
    rw [World.size_alloc] at this
    exact this
  have HB0 : Hid (Below w.heap.size w ((w.alloc (.cells #[] 3)).alloc (.cells #[] 3))) := ((Below.refl _ w).alloc (Nat.le_refl _) _).alloc (by rw [World.size_alloc]; omega) _
  generalize World.alloc (World.alloc w _) _ = W1 at *
  go_loopw [2, 4] (fun a i wr => ∃ k : Nat, k ≤ 288 ∧ i = .int .i64 (k : Int) ∧ wr.ownsRow w.heap.size 3 1 a k (nc (fixL.take k)) ∧ (k = 0 → a = .slice (some ⟨w.heap.size, 0, none⟩) 0 0) ∧ wr.heap[w.heap.size + 1]? = some (.cells #[] 3 (0, 0)) ∧ Below w.heap.size w wr) (fun _ i _ => 288 - (intOf i).toNat)
  case atStart => exact ⟨0, by omega, rfl, HO0.out, fun _ => rfl, HE0.out, HB0.out⟩
  case round =>
    clear HO0 HE0 HB0
    obtain ⟨k, hk, rfl, hO, hk0, hE, hB⟩ := hrel
    have hsz := hB.size
    obtain ⟨ao, co, rfl⟩ := own_slice hO
    have HNE : Hid (some (w.heap.size + 1) ≠ (Value.slice ao k co).ownBlock) := by
      intro e
      rcases hO.2 with ⟨hv, _⟩ | ⟨g, cap, cur, hv, _, hh, hc1, _, hc2, _⟩
      · rw [hv] at e; simp [Value.ownBlock] at e
      · by_cases hkz : k = 0
        · rw [hk0 hkz] at e
          simp [Value.ownBlock] at e
        · rw [hv] at e
          simp only [Value.ownBlock, Option.some.injEq] at e
          subst e
          rw [hE] at hh
          simp only [Option.some.injEq, Obj.cells.injEq] at hh
          rw [← hh.1] at hc2
          simp at hc2
          omega
    have HE : Hid (wr.heap[w.heap.size + 1]? = some (.cells #[] 3 (0, 0))) := hE
    have HB : Hid (Below w.heap.size w wr) := hB
    by_cases hlt : k < 288
    · obtain ⟨n, hn⟩ : ∃ n, n = (if 144 ≤ k ∧ k < 256 then 9 else if 256 ≤ k ∧ k < 280 then 7 else 8) := ⟨_, rfl⟩
      have HTK : Hid (nc (fixL.take (k + 1)) = nc (fixL.take k) ++ [.int .i64 (n : Int)]) := nc_take fixL k n (by rw [fixL_at k hlt, hn])
      have hlti : (k : Int) < 288 := by omega
      have HO : Hid (wr.ownsRow w.heap.size 3 1 (.slice ao k co) k (nc (fixL.take k))) := hO
      have step : ∀ (n' : Nat), n' = n → ∀ v8 w8, w8.ownsRow w.heap.size 3 1 v8 (k + 1) (nc (fixL.take k) ++ [.int .i64 (n' : Int)]) → (wr.alloc (.cells #[.int .i64 (n' : Int)] 3)).grownBy w8 (Value.slice ao k co).ownBlock → w8.ownsRow w.heap.size 3 1 v8 (k + 1) (nc (fixL.take (k + 1))) ∧ w8.heap[w.heap.size + 1]? = some (.cells #[] 3 (0, 0)) ∧ Below w.heap.size w w8 := by
        intro n' hn' v8 w8 h1 h2
        subst hn'
        refine ⟨by rw [HTK.out]; exact h1, ?_, ?_⟩
        · exact (h2.block (w.heap.size + 1) (by rw [World.size_alloc]; have := (Array.getElem?_eq_some_iff.1 HE.out).1; omega) HNE.out).trans ((ks_alloc _ _).2 _ _ _ _ HE.out (by decide) (by decide))
        · exact (HB.out.alloc hsz _).grown h2 (by rw [World.size_alloc]; omega) (fun q hq => (HO.out.lt q hq).1)
      have HST : Hid _ := step
      clear step hO hk0 hE hB
      by_cases h1 : 144 ≤ k ∧ k < 256
      · have HN9 : Hid ((9 : Nat) = n) := by unfold Hid; rw [hn]; rw [if_pos h1]
        have a1 : (144 : Int) ≤ (k : Int) := by omega
        have a2 : (k : Int) < 256 := by omega
        have a3 : ¬ (256 : Int) ≤ (k : Int) := by omega
        have HN1 : Hid _ := one_newI wr 9
        clear hn
        go_wp2_with (at_builtin; refine wpList_append_own _ rfl _ _ 63 rfl w.heap.size 3 i0 (.int .i64 0) 1 8 Try.underlying63 hi hz0 hz1 hz2 rfl (by decide) _ _ _ rfl (HO.out.alloc _) ⟨wr.heap.size, 0, none⟩ 1 1 [.int .i64 (9 : Int)] rfl rfl HN1.out (one_oneI _) (by unfold maxLen; omega) (by omega) (by simp; omega) ?_)
        intro v8 w8 hown hg _
        obtain ⟨hO8, hE8, hB8⟩ := HST.out 9 HN9.out v8 w8 hown hg
        have HO8 : Hid _ := hO8
        have HE8 : Hid _ := hE8
        have HB8 : Hid _ := hB8
        clear hown hg hO8 hE8 hB8
        go_wp2
        go_roundw
        case rel => exact ⟨k + 1, by omega, by go_num, HO8.out, fun h => by omega, HE8.out, HB8.out⟩
        case measure => simp [intOf]; omega
      · by_cases h2 : 256 ≤ k ∧ k < 280
        · have HN9 : Hid ((7 : Nat) = n) := by unfold Hid; rw [hn]; rw [if_neg h1, if_pos h2]
          have a1 : (144 : Int) ≤ (k : Int) := by omega
          have a2 : ¬ (k : Int) < 256 := by omega
          have a3 : (256 : Int) ≤ (k : Int) := by omega
          have a4 : (k : Int) < 280 := by omega
          have HN1 : Hid _ := one_newI wr 7
          clear hn
          go_wp2_with (at_builtin; refine wpList_append_own _ rfl _ _ 63 rfl w.heap.size 3 i0 (.int .i64 0) 1 8 Try.underlying63 hi hz0 hz1 hz2 rfl (by decide) _ _ _ rfl (HO.out.alloc _) ⟨wr.heap.size, 0, none⟩ 1 1 [.int .i64 (7 : Int)] rfl rfl HN1.out (one_oneI _) (by unfold maxLen; omega) (by omega) (by simp; omega) ?_)
          intro v8 w8 hown hg _
          obtain ⟨hO8, hE8, hB8⟩ := HST.out 7 HN9.out v8 w8 hown hg
          have HO8 : Hid _ := hO8
          have HE8 : Hid _ := hE8
          have HB8 : Hid _ := hB8
          clear hown hg hO8 hE8 hB8
          go_wp2
          go_roundw
          case rel => exact ⟨k + 1, by omega, by go_num, HO8.out, fun h => by omega, HE8.out, HB8.out⟩
          case measure => simp [intOf]; omega
        · by_cases h3 : k < 144
          · have HN9 : Hid ((8 : Nat) = n) := by unfold Hid; rw [hn]; rw [if_neg h1, if_neg h2]
            have a1 : ¬ (144 : Int) ≤ (k : Int) := by omega
            have a2 : (k : Int) < 256 := by omega
            have a3 : ¬ (256 : Int) ≤ (k : Int) := by omega
            have HN1 : Hid _ := one_newI wr 8
            clear hn
            go_wp2_with (at_builtin; refine wpList_append_own _ rfl _ _ 63 rfl w.heap.size 3 i0 (.int .i64 0) 1 8 Try.underlying63 hi hz0 hz1 hz2 rfl (by decide) _ _ _ rfl (HO.out.alloc _) ⟨wr.heap.size, 0, none⟩ 1 1 [.int .i64 (8 : Int)] rfl rfl HN1.out (one_oneI _) (by unfold maxLen; omega) (by omega) (by simp; omega) ?_)
            intro v8 w8 hown hg _
            obtain ⟨hO8, hE8, hB8⟩ := HST.out 8 HN9.out v8 w8 hown hg
            have HO8 : Hid _ := hO8
            have HE8 : Hid _ := hE8
            have HB8 : Hid _ := hB8
            clear hown hg hO8 hE8 hB8
            go_wp2
            go_roundw
            case rel => exact ⟨k + 1, by omega, by go_num, HO8.out, fun h => by omega, HE8.out, HB8.out⟩
            case measure => simp [intOf]; omega
          · have HN9 : Hid ((8 : Nat) = n) := by unfold Hid; rw [hn]; rw [if_neg h1, if_neg h2]
            have a1 : (144 : Int) ≤ (k : Int) := by omega
            have a2 : ¬ (k : Int) < 256 := by omega
            have a3 : (256 : Int) ≤ (k : Int) := by omega
            have a4 : ¬ (k : Int) < 280 := by omega
            have HN1 : Hid _ := one_newI wr 8
            clear hn
            go_wp2_with (at_builtin; refine wpList_append_own _ rfl _ _ 63 rfl w.heap.size 3 i0 (.int .i64 0) 1 8 Try.underlying63 hi hz0 hz1 hz2 rfl (by decide) _ _ _ rfl (HO.out.alloc _) ⟨wr.heap.size, 0, none⟩ 1 1 [.int .i64 (8 : Int)] rfl rfl HN1.out (one_oneI _) (by unfold maxLen; omega) (by omega) (by simp; omega) ?_)
            intro v8 w8 hown hg _
            obtain ⟨hO8, hE8, hB8⟩ := HST.out 8 HN9.out v8 w8 hown hg
            have HO8 : Hid _ := hO8
            have HE8 : Hid _ := hE8
            have HB8 : Hid _ := hB8
            clear hown hg hO8 hE8 hB8
            go_wp2
            go_roundw
            case rel => exact ⟨k + 1, by omega, by go_num, HO8.out, fun h => by omega, HE8.out, HB8.out⟩
            case measure => simp [intOf]; omega
    · obtain rfl : k = 288 := by omega
      have hf : fixL.take 288 = fixL := by decide +kernel
      rw [hf] at hO
      have HO : Hid (wr.ownsRow w.heap.size 3 1 (.slice ao 288 co) 288 (nc fixL)) := hO
      have HD0 : Hid (wr.ownsRow w.heap.size 3 1 (.slice (some ⟨w.heap.size + 1, 0, none⟩) 0 0) 0 (nc (fixD.take 0))) := ⟨rfl, .inr ⟨w.heap.size + 1, 0, #[], rfl, by omega, HE.out, Nat.le_refl _, by decide, rfl, rfl⟩⟩
      clear hO hk0 hE hB
      go_wp2
      go_loopw [3] (fun a wq => ∃ j : Nat, j ≤ 32 ∧ wq.ownsRow w.heap.size 3 1 a j (nc (fixD.take j)) ∧ (j = 0 → a = .slice (some ⟨w.heap.size + 1, 0, none⟩) 0 0) ∧ wq.ownsRow w.heap.size 3 1 (.slice ao 288 co) 288 (nc fixL) ∧ Below w.heap.size w wq) (fun a _ => 32 - lenV a)
      case atStart => exact ⟨0, by omega, HD0.out, fun _ => rfl, HO.out, HB.out⟩
      case round =>
        clear HO HD0 HB HE
        obtain ⟨j, hj, hD, hj0, hO, hB⟩ := hrel
        have hsz := hB.size
        obtain ⟨ad, cd, rfl⟩ := own_slice hD
        obtain ⟨g, cap, hform, hg0, hg1, hg2⟩ := own_frm0 hO (by decide)
        simp only [Value.slice.injEq, true_and] at hform
        obtain ⟨rfl, rfl⟩ := hform
        have hne : some g ≠ (Value.slice ad j cd).ownBlock := by
          by_cases hjz : j = 0
          · rw [hj0 hjz]
            exact fun e => HNE.out e.symm
          · refine own_apart hD hO (by omega) (by decide) ?_ rfl
            rw [show (nc (fixD.take j))[0]? = some (.int .i64 5) by
              unfold nc; rw [List.getElem?_map, List.getElem?_take, if_pos (by omega), fixD_at 0 (by decide)]; rfl]
            rw [show (nc fixL)[0]? = some (.int .i64 8) by unfold nc; rw [List.getElem?_map, fixL_at 0 (by decide)]; rfl]
            intro h
            simp at h
        by_cases hlt : j < 32
        · have HTK : Hid (nc (fixD.take (j + 1)) = nc (fixD.take j) ++ [.int .i64 ((5 : Nat) : Int)]) := nc_take fixD j 5 (fixD_at j hlt)
          have hlti : (j : Int) < 32 := by omega
          have HN1 : Hid _ := one_newI wr 5
          have HOK : Hid (∀ w8, (wr.alloc (.cells #[.int .i64 5] 3)).grownBy w8 (Value.slice ad j cd).ownBlock → w8.ownsRow w.heap.size 3 1 (.slice (some ⟨g, 0, none⟩) 288 co) 288 (nc fixL)) := fun w8 hg => (hO.alloc _).kept hg (.inr hne)
          have HDD : Hid (wr.ownsRow w.heap.size 3 1 (.slice ad j cd) j (nc (fixD.take j))) := hD
          have HB : Hid (Below w.heap.size w wr) := hB
          clear hD hO hB hj0 hne
          go_wp2_with (at_builtin; refine wpList_append_own _ rfl _ _ 63 rfl w.heap.size 3 i0 (.int .i64 0) 1 8 Try.underlying63 hi hz0 hz1 hz2 rfl (by decide) _ _ _ rfl (HDD.out.alloc _) ⟨wr.heap.size, 0, none⟩ 1 1 [.int .i64 (5 : Int)] rfl rfl HN1.out (one_oneI _) (by unfold maxLen; omega) (by omega) (by simp; omega) ?_)
          intro v8 w8 hown hg _
          have hO8 : w8.ownsRow w.heap.size 3 1 v8 (j + 1) (nc (fixD.take (j + 1))) := by rw [HTK.out]; exact hown
          have HO8 : Hid (w8.ownsRow w.heap.size 3 1 v8 (j + 1) (nc (fixD.take (j + 1)))) := hO8
          have HL8 : Hid _ := HOK.out w8 hg
          have HB8 : Hid (Below w.heap.size w w8) := (HB.out.alloc hsz _).grown hg (by rw [World.size_alloc]; omega) (fun q hq => (HDD.out.lt q hq).1)
          obtain ⟨a8, c8, rfl⟩ := own_slice hO8
          clear hown hg hO8 HOK HDD HB
          go_wp2
          go_roundw
          case rel => exact ⟨_, _, _, _, _, _, _, ⟨j + 1, by omega, HO8.out, fun h => by omega, HL8.out, HB8.out⟩, rfl⟩
          case measure => simp [lenV]; omega
        · obtain rfl : j = 32 := by omega
          have hf2 : fixD.take 32 = fixD := by decide +kernel
          rw [hf2] at hD
          go_wp2
          go_ret2
          exact ⟨_, _, rfl, hO, hD, hB⟩
end Go.Proofs.Ythkppipdflmekaa
