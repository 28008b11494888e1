/- HuffLengths: the walk. -/
import Derived.Test.YtclmjopppaknjaaRRig
import Derived.Test.YtclmjopppaknjaaRWro
import Derived.Test.YtclmjopppaknjaaRLea
import Derived.Test.YtclmjopppaknjaaInts
import Derived.Test.YtclmjopppaknjaaAwake4
namespace Go.Proofs.Ytclmjopppaknjaa
open Go.RowKit
set_option linter.unusedVariables false
set_option linter.unusedSimpArgs false

theorem isrow_keep {k : IntKind} {w w' : World} {a : Option Addr} {len cap : Nat} {zs : List Int} (h : IsRow k w a len cap zs) (hb : Below w.heap.size w w') : IsRow k w' a len cap zs := by
  rcases h with h | ⟨x, rfl, hl, hm, hz, hcell, hwf⟩
  · exact .inl h
  · refine .inr ⟨x, rfl, hl, hm, hz, fun i hi => ?_, hwf⟩
    have hlt := World.block_lt_of_cell? w _ (hcell i hi)
    rw [hb.cell hlt]; exact hcell i hi
theorem sumK_upd (g : Nat → Nat) (a x : Nat) (h0 : g a = 0) : ∀ n, a < n → sumK (fun i => if i = a then x else g i) n = sumK g n + x
  | 0, h => by omega
  | n + 1, h => by
    rw [sumK, sumK]
    by_cases e : a = n
    · subst e
      rw [if_pos rfl, h0, sumK_congr (g := g) a (fun i hi => if_neg (by omega))]; omega
    · rw [if_neg (by omega), sumK_upd g a x h0 n (by omega)]; omega
theorem putL_cost (c : Nat → Nat) (ss : List Nat) (f : Nat → Nat) (n : Nat) (hnd : ss.Nodup) (hlt : ∀ i ∈ ss, i < n) : ∀ k, k ≤ ss.length → sumK (fun i => c i * (putL ss f n k).getD i 0) n = sumK (fun j => c (ss.getD j 0) * f j) k
  | 0, _ => by
    rw [sumK_congr (g := fun _ => 0) n (fun i hi => by
      show c i * (List.replicate n 0).getD i 0 = 0
      rw [List.getD_eq_getElem?_getD, List.getElem?_replicate, if_pos hi]; simp), sumK_const]; simp [sumK]
  | k + 1, hk => by
    have ih := putL_cost c ss f n hnd hlt k (by omega)
    have hgd : ss.getD k 0 < n := hlt _ (by rw [List.getD_eq_getElem?_getD, List.getElem?_eq_getElem (show k < ss.length by omega)]; simp)
    have hz : (putL ss f n k).getD (ss.getD k 0) 0 = 0 := putL_out ss f n _ k fun j hj e => by
      have := getD_inj hnd (show j < ss.length by omega) (by omega) e
      omega
    rw [sumK, ← ih, ← sumK_upd (fun i => c i * (putL ss f n k).getD i 0) (ss.getD k 0) (c (ss.getD k 0) * f k) (by show _ * _ = 0; rw [hz]; omega) n hgd]
    refine sumK_congr n fun i hi => ?_
    show c i * (putL ss f n (k + 1)).getD i 0 = _
    rw [putL, getD_setN, putL_len]
    by_cases e : i = ss.getD k 0
    · rw [if_pos e, if_pos ⟨e.symm, hi⟩, e]
    · rw [if_neg e, if_neg (fun q => e q.1.symm)]
theorem ris_nodup {zs : List Int} {ss : List Nat} (h : RisP zs ss) : ss.Nodup := (h.perm.nodup_iff).2 (by unfold posL; exact List.nodup_range.filter _)
theorem ris_lt {zs : List Int} {ss : List Nat} (h : RisP zs ss) : ∀ i ∈ ss, i < zs.length := fun i hi => (posL_mem.1 (h.perm.mem_iff.1 hi)).1
theorem wOf_at (zs : List Int) (ss : List Nat) (j : Nat) (hj : j < ss.length) : (wOf zs ss).getD j 0 = (zs.getD (ss.getD j 0) 0).toNat := by
  unfold wOf
  rw [List.getD_eq_getElem?_getD, List.getElem?_map, List.getElem?_eq_getElem hj, List.getD_eq_getElem?_getD (l := ss), List.getElem?_eq_getElem hj]; rfl
theorem best_cost {zs : List Int} {ss : List Nat} (h : RisP zs ss) {m : Nat} (h1 : 1 ≤ m) (h2 : ss.length ≤ 2 ^ m) (h0 : 2 ≤ ss.length) : lst m m (fallK zs zs.length) 2 = ((costK zs (lensOf zs ss m) zs.length : Nat) : Int) := by
  have hr : Rising (wOf zs ss) := h.rise
  rw [fall_rev h, lst_pkg hr h1 (by rw [wOf_len]; exact h2) (by rw [wOf_len]; exact h0)]
  congr 1
  unfold costK lensOf
  rw [putL_cost (fun i => (zs.getD i 0).toNat) ss _ zs.length (ris_nodup h) (ris_lt h) ss.length (Nat.le_refl _), wOf_len]
  refine sumK_congr _ fun j hj => ?_
  show (wOf zs ss).getD j 0 * lenK (wOf zs ss) m j = (zs.getD (ss.getD j 0) 0).toNat * lenF zs ss m j
  rw [wOf_at zs ss j hj]
  unfold lenF
  rw [if_neg (by omega)]
theorem lens_mono {zs : List Int} {ss : List Nat} (h : RisP zs ss) (m : Nat) (i j : Nat) (hi : i < zs.length) (hj : j < zs.length) (hlt : zs.getD j 0 < zs.getD i 0) (hp : 0 < zs.getD j 0) : (lensOf zs ss m).getD i 0 ≤ (lensOf zs ss m).getD j 0 := by
  have hmem : ∀ i, i < zs.length → 0 < zs.getD i 0 → ∃ a, a < ss.length ∧ ss.getD a 0 = i := fun i h1 h2 => by
    have : i ∈ ss := h.perm.mem_iff.2 (posL_mem.2 ⟨h1, h2⟩)
    obtain ⟨a, ha, e⟩ := List.mem_iff_getElem.1 this
    exact ⟨a, ha, by rw [List.getD_eq_getElem?_getD, List.getElem?_eq_getElem ha]; exact e⟩
  obtain ⟨a, ha, rfl⟩ := hmem i hi (by omega)
  obtain ⟨b, hb, rfl⟩ := hmem j hj hp
  have hba : b ≤ a := by
    by_cases q : b ≤ a
    · exact q
    · have hr : Rising (wOf zs ss) := h.rise
      have := rise_get _ hr a b (by omega) (by rw [wOf_len]; exact hb)
      rw [wOf_at _ _ _ ha, wOf_at _ _ _ hb] at this
      omega
  unfold lensOf
  rw [putL_in ss _ _ (ris_nodup h) (ris_lt h) _ (Nat.le_refl _) a ha, putL_in ss _ _ (ris_nodup h) (ris_lt h) _ (Nat.le_refl _) b hb]
  unfold lenF
  split
  · exact Nat.le_refl _
  · exact lenK_mono _ _ hba
set_option maxRecDepth 100000 in
set_option maxHeartbeats 2000000 in
theorem lawHuffLengths_walk (a : Option Addr) (len cap : Nat) (zs : List Int) (q : Int) (w : World) (hR : IsRow .i64 w a len cap zs) (hq : -9223372036854775808 ≤ q ∧ q ≤ 9223372036854775807) :
    Calls Try.prog 3 #[.slice a len cap, .int .i64 q] w fun e w' => e = .returned (.bool true) ∧ Below w.heap.size w w' := by
  have hfl : (fewZ len zs).length ≤ 400 := by unfold fewZ; rw [List.length_take]; omega
  have HFW : Hid (∀ W, Below w.heap.size w W → Calls Try.prog 6 #[.slice a len cap] W fun e w' => ∃ v, e = .returned v ∧ IR w' v (fewZ len zs) ∧ Below W.heap.size W w') := fun W hb => few4_any a len cap zs W (isrow_keep hR hb)
  clear hR
  generalize fewZ len zs = ys at *
  go_enter Try.func3, Try.ntmps3
  go_wp2_with fail
  refine (HFW.out _ (Below.refl _ w)).mono ?_
  rintro e w1 ⟨v, rfl, hI, hB1⟩
  by_cases hw : wrongN ys q = 0
  · have hchk : chkC ys q = 0 := by
      unfold wrongN at hw
      by_cases z : chkC ys q = 0
      · exact z
      · rw [if_neg z] at hw; exact absurd hw z
    obtain ⟨h320, hq1, hq15, hzz⟩ := chkC_zero hchk
    obtain ⟨m, rfl⟩ : ∃ m : Nat, q = (m : Int) := ⟨q.toNat, by omega⟩
    have hmany : (posL ys ys.length).length ≤ 2 ^ m := by
      unfold wrongN at hw
      rw [if_pos hchk, show ((m : Int)).toNat = m by omega] at hw
      by_cases z : 2 ^ m < (posL ys ys.length).length
      · rw [if_pos z] at hw; cases hw
      · omega
    have HLG : Hid (Calls _ _ _ _ _) := lengths_good v ys m w1 hI.io hchk hmany
    go_wp2_with fail
    refine (Hid.out HLG : Calls _ _ _ _ _).mono ?_
    rintro e w2 ⟨gl, ss, rfl, hris, hol, hb2⟩
    have hB2 := hB1.trans (hb2.mono hB1.size)
    have hI2 := hI.below hb2
    have hss : ss.length = (posL ys ys.length).length := hris.perm.length_eq
    have hLP := lens_ok ys ss m hris (by omega) (by omega) (by rw [hss]; exact hmany)
    have HBC : Hid (2 ≤ ss.length → lst m m (fallK ys ys.length) 2 = ((costK ys (lensOf ys ss m) ys.length : Nat) : Int)) := fun z => best_cost hris (by omega) (by rw [hss]; exact hmany) z
    have HMO : Hid (∀ i j, i < ys.length → j < ys.length → ys.getD j 0 < ys.getD i 0 → 0 < ys.getD j 0 → (lensOf ys ss m).getD i 0 ≤ (lensOf ys ss m).getD j 0) := lens_mono hris m
    clear HLG hI
    generalize lensOf ys ss m = ns at *
    rw [zOf_nc] at hol
    have hIL : IR w2 (.slice (some ⟨gl, 0, none⟩) ys.length ys.length) (zOf ns) := IR.of hol (by intro e; cases e)
    go_wp2_with fail
    refine (HFW.out _ hB2).mono ?_
    rintro e w3 ⟨v3, rfl, hI3, hb3⟩
    have hB3 := hB2.trans (hb3.mono hB2.size)
    go_wp2_with fail
    refine (wrong_any v3 ys (m : Int) w3 hI3.io hfl).mono ?_
    rintro e w4 ⟨rfl, hw4⟩
    obtain rfl := hw4.symm
    rw [hw]
    go_wp2_with fail
    refine (awake4_any _).mono ?_
    rintro e w5 ⟨rfl, hb5⟩
    have hB5 := hB3.trans (hb5.mono hB3.size)
    have hI5 := (hI2.below hb3).below hb5
    have hL5 := (hIL.below hb3).below hb5
    clear hI2 hIL hI3 hol hb2 hb3 hb5 hw4
    go_wp2_with fail
    refine (HFW.out _ hB5).mono ?_
    rintro e w6 ⟨v6, rfl, hI6, hb6⟩
    have hB6 := hB5.trans (hb6.mono hB5.size)
    have hI5' := hI5.below hb6
    have hL6 := hL5.below hb6
    obtain ⟨g, cp, rfl, hg, hc⟩ := hI5'
    obtain ⟨g6, cp6, rfl, hg6, hc6⟩ := hI6
    have HC : Hid (∀ i, i < ys.length → w6.cell? ⟨g, i, none⟩ = some (.int .i64 (ys.getD i 0))) := hc
    have HC6 : Hid (∀ i, i < ys.length → w6.cell? ⟨g6, i, none⟩ = some (.int .i64 (ys.getD i 0))) := hc6
    clear hc hc6 hI5 hL5 hb6
    go_wp2
    go_loop [9, 39] (fun s i => ∃ k : Nat, k ≤ ys.length ∧ i = .int .i64 (k : Int) ∧ s = .int .i64 ((posL ys k).length : Int)) (fun _ i => ys.length - (intOf i).toNat)
    case atStart => exact ⟨0, by omega, rfl, rfl⟩
    case round =>
      obtain ⟨k, hk, rfl, rfl⟩ := hrel
      have hpl := posL_len ys k
      by_cases hlt : k < ys.length
      · have hki : (k : Int) < (ys.length : Int) := by omega
        have c1 := HC.out k hlt
        have c2 := HC6.out k hlt
        have HY : Hid (0 < ys.getD k 0 → (posL ys (k + 1)).length = (posL ys k).length + 1) := fun h => by rw [posL_yes h, List.length_append]; rfl
        have HN : Hid (¬ 0 < ys.getD k 0 → (posL ys (k + 1)).length = (posL ys k).length) := fun h => by rw [posL_no h]
        generalize ys.getD k 0 = z at *
        generalize (posL ys k).length = c at *
        by_cases hz3 : 0 < z
        · go_wp2
          go_round
          case rel => exact ⟨k + 1, by omega, by go_num, by rw [HY.out hz3]; go_num⟩
          case measure => simp [intOf]; omega
        · go_wp2
          go_round
          case rel => exact ⟨k + 1, by omega, by go_num, by rw [HN.out hz3]⟩
          case measure => simp [intOf]; omega
      · obtain rfl : k = ys.length := by omega
        have h00 : ∀ i, i < ys.length → 0 ≤ ys.getD i 0 := fun i hi => (hzz (ys.getD i 0) (by rw [List.getD_eq_getElem?_getD, List.getElem?_eq_getElem hi]; simp)).1
        have hMM : ∀ i, (ys.getD i 0).toNat ≤ 1000000 := fun i => by
          by_cases hi : i < ys.length
          · have := (hzz (ys.getD i 0) (by rw [List.getD_eq_getElem?_getD, List.getElem?_eq_getElem hi]; simp)).2; omega
          · rw [List.getD_eq_getElem?_getD, List.getElem?_eq_none (by omega)]; simp
        have hn15 : ∀ i, ns.getD i 0 ≤ 15 := fun i => by have := hLP.le i; omega
        rw [← hss]
        go_wp2_with fail
        refine (HFW.out _ hB6).mono ?_
        rintro e w7 ⟨v7, rfl, hI7, hb7⟩
        have hB7 := hB6.trans (hb7.mono hB6.size)
        have hL7 := hL6.below hb7
        go_wp2_with fail
        refine (right_any v7 _ ys ns m w7 hI7.io hL7.io h320 (by omega) h00 hLP HMO.out).mono ?_
        rintro e w8 ⟨rfl, hb8⟩
        have hB8 := hB7.trans (hb8.mono hB7.size)
        have hL8 := hL7.below hb8
        clear hI7 hL7 hb7 hb8
        by_cases hs2 : ss.length < 2
        · have hs2i : (ss.length : Int) < 2 := by omega
          go_wp2
          go_ret
          exact ⟨rfl, hB8⟩
        · have hs2i : ¬ (ss.length : Int) < 2 := by omega
          by_cases hs9 : 9 < ss.length
          · have hs9i : (9 : Int) < (ss.length : Int) := by omega
            go_wp2
            go_ret
            exact ⟨rfl, hB8⟩
          · have hs9i : ¬ (9 : Int) < (ss.length : Int) := by omega
            have hbc := HBC.out (by omega)
            go_wp2_with fail
            refine (HFW.out _ hB8).mono ?_
            rintro e w9 ⟨v9, rfl, hI9, hb9⟩
            have hB9 := hB8.trans (hb9.mono hB8.size)
            go_wp2_with fail
            refine (cost_any v9 _ ys ns w9 hI9.io (hL8.below hb9).io h320 hLP.len h00 hMM hn15).mono ?_
            rintro e w10 ⟨rfl, hb10⟩
            have hB10 := hB9.trans (hb10.mono hB9.size)
            clear hI9 hb9 hb10 hL8
            go_wp2_with fail
            refine (HFW.out _ hB10).mono ?_
            rintro e w11 ⟨v11, rfl, hI11, hb11⟩
            have hB11 := hB10.trans (hb11.mono hB10.size)
            go_wp2_with fail
            refine (leastL_any v11 ys m w11 hI11.io h320 (by omega) (by omega) (fun z hz => (hzz z hz).2) (by rw [← hss]; omega)).mono ?_
            rintro e w12 ⟨rfl, hb12⟩
            have hB12 := hB11.trans (hb12.mono hB11.size)
            rw [hbc]
            clear hI11 hb11 hb12
            generalize costK ys ns ys.length = K at *
            go_wp2
            go_ret
            exact ⟨rfl, hB12⟩
  · have HLW : Hid (Calls _ _ _ _ _) := lengths_wrong v ys q w1 hI.io hfl hw
    go_wp2_with fail
    refine (Hid.out HLW : Calls _ _ _ _ _).mono ?_
    rintro e w2 ⟨rfl, hb2⟩
    have hB2 := hB1.trans (hb2.mono hB1.size)
    go_wp2_with fail
    refine (HFW.out _ hB2).mono ?_
    rintro e w3 ⟨v3, rfl, hI3, hb3⟩
    have hB3 := hB2.trans (hb3.mono hB2.size)
    go_wp2_with fail
    refine (wrong_any v3 ys q w3 hI3.io hfl).mono ?_
    rintro e w4 ⟨rfl, hw4⟩
    obtain rfl := hw4.symm
    have hei : ¬ (wrongN ys q : Int) = 0 := by omega
    clear HLW
    generalize wrongN ys q = E at *
    go_wp2_with fail
    refine (awake4_any _).mono ?_
    rintro e w5 ⟨rfl, hb5⟩
    have hB5 := hB3.trans (hb5.mono hB3.size)
    go_wp2
    go_ret
    exact ⟨rfl, hB5⟩
end Go.Proofs.Ytclmjopppaknjaa
