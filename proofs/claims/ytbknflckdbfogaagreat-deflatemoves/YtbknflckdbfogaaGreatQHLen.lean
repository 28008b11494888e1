/- huff.bestLengths of no weights. Pure: there is but one order of the symbols by counts and then by symbols. huff.Lengths, where the counts are right and there are not too many symbols. -/
import Derived.Test.YtbknflckdbfogaaGreatQHLenM
import Derived.Test.YtbknflckdbfogaaGreatQHChk
import Derived.Test.YtbknflckdbfogaaGreatQHuffM
namespace Go.Proofs.YtbknflckdbfogaaGreat
open Go.RowKit
set_option linter.unusedVariables false
set_option linter.unusedSimpArgs false
theorem made_fz (n : Nat) : (madeCells (Value.int IntKind.i64 0).cells (n * 1)).toList = fz (fun _ => 0) n := by
  rw [Nat.mul_one]
  show (madeCells #[.int .i64 0] n).toList = _
  rw [toList_madeCells_one]
  unfold fz
  rw [List.map_const', List.length_range]; rfl
theorem make_intsH (n : Nat) (w : World) (hn : n ≤ 320) : ∃ w1, (Instr.makeSlice 40 (.int .i64 (n : Int)) (.int .i64 (n : Int))).run Tryz.prog w = .ok (.slice (some ⟨w.heap.size, 0, none⟩) n n) w1 ∧ w1.ownsRow w.heap.size 3 1 (.slice (some ⟨w.heap.size, 0, none⟩) n n) n (fz (fun _ => 0) n) ∧ Below w.heap.size w w1 := by
  obtain ⟨i0, hi, hz0, hz1, hz2⟩ := info_parts Tryz.infoI
  obtain ⟨w1, hmk, hown, hgr⟩ := run_makeSlice_full (P := Tryz.prog) (w := w) w.heap.size 40 3 i0 (.int .i64 0) 1 Tryz.underlying40 hi hz0 hz1 .i64 .i64 n (by omega) (by rw [hz2]; omega) (by unfold maxLen; omega) (Nat.le_refl _)
  rw [made_fz] at hown
  exact ⟨w1, hmk, hown, (Below.refl _ w).grown hgr (Nat.le_refl _) (fun k hk => by cases hk)⟩
set_option maxRecDepth 100000 in
set_option maxHeartbeats 2000000 in
theorem rows_nil (v : Value) (n : Nat) (w : World) (hV : NR w v []) (hn : n ≤ 15) :
    Calls Tryz.prog 125 #[v, .int .i64 (n : Int)] w fun e w' => ∃ a cap, e = .returned (.slice a n cap) ∧ Below w.heap.size w w' := by
  obtain ⟨i0, hi, hz0, hz1, hz2⟩ := info_parts Tryz.infoRw
  have HNV : Hid (∀ W, Below w.heap.size w W → NR W v []) := fun W hb => hV.below hb
  obtain ⟨av, cv, rfl, _⟩ := hV
  go_enter Tryz.func125, Tryz.ntmps125
  go_wp2
  go_loopw [5, 6, 8] (fun r x i wr => ∃ (k : Nat) (vs : List Value), k ≤ n ∧ vs.length = k ∧ i = .int .i64 (k : Int) ∧ wr.ownsRow w.heap.size 223 2 x 0 (itC []) ∧ wr.ownsRow w.heap.size 221 1 r k vs ∧ Below w.heap.size w wr) (fun _ _ i _ => n - (intOf i).toNat)
  case atStart => exact ⟨0, [], Nat.zero_le _, rfl, rfl, World.ownsRow_nil _ _ _ _, World.ownsRow_nil _ _ _ _, Below.refl _ _⟩
  case round =>
    obtain ⟨k, vs, hk, hvs, rfl, hX, hR, hB⟩ := hrel
    have hsz := hB.size
    by_cases hlt : k < n
    · have hki : (k : Int) < (n : Int) := by omega
      have HPA : Hid (Calls _ _ _ _ _) := pairs_any _ [] wr (PR.own (l := []) hX) (by simp) (by simp)
      obtain ⟨ax, cx, rfl⟩ := own_sliceH hX
      go_wp2_with fail
      refine (Hid.out HPA : Calls _ _ _ _ _).mono ?_
      rintro e w1 ⟨v1, rfl, hO1, hb1⟩
      have hB1 : Below w.heap.size w w1 := hB.trans (hb1.mono hsz)
      have HMA : Hid (Calls _ _ _ _ _) := merge_any _ _ [] [] w1 (HNV.out w1 hB1) (NR.own (l := []) hO1) (by simp)
      obtain ⟨a1, c1, rfl⟩ := own_sliceH hO1
      clear HPA
      go_wp2_with fail
      refine (Hid.out HMA : Calls _ _ _ _ _).mono ?_
      rintro e w2 ⟨v2, rfl, hO2, hb2⟩
      rw [show mrg [] [] = [] by rw [mrg]] at hO2
      have hO3 : w2.ownsRow w.heap.size 223 2 v2 0 (itC []) := own_baseH hO2 hB1.size
      have HB2 : Hid (Below w.heap.size w w2) := hB1.trans (hb2.mono hB1.size)
      have HR2 : Hid (w2.ownsRow w.heap.size 221 1 _ k vs) := own_belowH (own_belowH hR hb1) hb2
      obtain ⟨a2, c2, rfl⟩ := own_sliceH hO3
      have HO3 : Hid (w2.ownsRow w.heap.size 223 2 (.slice a2 0 c2) 0 (itC [])) := hO3
      have hsz2 := HB2.out.size
      clear HMA hO1 hO2 hb1 hb2 hB1 hO3 hX hR hB
      go_wp2_with (at_builtin; refine wpList_append_own _ rfl _ _ 219 rfl w.heap.size 221 i0 (.slice none 0 0) 1 24 Tryz.underlying219 hi hz0 hz1 hz2 rfl (by decide) _ _ _ rfl (HR2.out.alloc _) ⟨w2.heap.size, 0, none⟩ 1 1 [.slice a2 0 c2] rfl rfl (cell_one_new _ _ _) ?d2 ?d3 ?d4 ?d5 ?_)
      case d2 => first | rfl | (intro y hy; simp at hy; subst hy; rfl)
      case d3 => unfold maxLen; omega
      case d4 => omega
      case d5 => first | omega | (rw [World.size_alloc]; omega)
      intro v9 w9 hown hg9 _
      have HR9 : Hid (w9.ownsRow w.heap.size 221 1 v9 (k + 1) (vs ++ [.slice a2 0 c2])) := hown
      have HX9 : Hid (w9.ownsRow w.heap.size 223 2 (.slice a2 0 c2) 0 (itC [])) := own_keepH (HO3.out.alloc _) (HR2.out.alloc _) (by decide) hg9
      have HB9 : Hid (Below w.heap.size w w9) := (HB2.out.alloc hsz2 _).grown hg9 (by rw [World.size_alloc]; omega) (fun q hq => (HR2.out.lt q hq).1)
      clear hown hg9 HR2 HO3 HB2
      go_wp2
      go_roundw
      case rel => exact ⟨k + 1, _, by omega, by simp; omega, by go_num, HX9.out, HR9.out, HB9.out⟩
      case measure => simp [intOf]; omega
    · obtain rfl : k = n := by omega
      obtain ⟨ar, cr, rfl⟩ := own_sliceH hR
      clear hX hR
      go_wp2
      go_ret
      exact ⟨_, _, rfl, hB⟩
set_option maxRecDepth 100000 in
set_option maxHeartbeats 2000000 in
theorem best_nil (v : Value) (most : Nat) (w : World) (hV : NR w v []) (hm1 : 1 ≤ most) (hm : most ≤ 15) :
    Calls Tryz.prog 113 #[v, .int .i64 (most : Int)] w fun e w' => ∃ g, e = .returned (.slice (some ⟨g, 0, none⟩) 0 0) ∧ Below w.heap.size w w' := by
  obtain ⟨w1, hmk, hown, hb1⟩ := make_intsH 0 w (by omega)
  have HRA : Hid (Calls _ _ _ _ _) := rows_nil v most w1 (hV.below hb1) hm
  obtain ⟨av, cv, rfl, _⟩ := hV
  rw [List.length_nil] at HRA ⊢
  have hmk0 : (Instr.makeSlice 40 (.int .i64 0) (.int .i64 0)).run Tryz.prog w = .ok (.slice (some ⟨w.heap.size, 0, none⟩) 0 0) w1 := hmk
  go_enter Tryz.func113, Tryz.ntmps113
  go_wp2_with fail
  refine (Hid.out HRA : Calls _ _ _ _ _).mono ?_
  rintro e w2 ⟨ar, cr, rfl, hb2⟩
  have hbF := hb1.trans (hb2.mono hb1.size)
  have hIi : (0 : Int) ≤ (most : Int) - 1 := by omega
  clear HRA hmk hmk0 hown hb1 hb2
  go_wp2
  go_loopw [7, 8] (fun q i W => q = .int .i64 (-2) ∧ i = .int .i64 ((most : Int) - 1) ∧ W = w2) (fun _ i _ => 0)
  case atStart => exact ⟨rfl, rfl, rfl⟩
  case round =>
    obtain ⟨rfl, rfl, rfl⟩ := hrel
    go_wp2
    go_ret
    exact ⟨_, rfl, hbF⟩
end Go.Proofs.YtbknflckdbfogaaGreat
namespace Go.Proofs.YtbknflckdbfogaaGreat
open Go.RowKit
set_option linter.unusedVariables false

theorem rising_at : ∀ (l : List Nat), Rising l → ∀ i j, i < j → j < l.length → l.getD i 0 ≤ l.getD j 0
  | [], _, i, j, _, h => by simp at h
  | a :: l, ⟨h1, h2⟩, 0, j + 1, _, hj => by
    rw [List.getD_cons_zero, List.getD_cons_succ]
    have hj' : j < l.length := by simpa using hj
    exact h1 _ (by rw [List.getD_eq_getElem?_getD, List.getElem?_eq_getElem hj']; exact List.getElem_mem _)
  | a :: l, ⟨h1, h2⟩, i + 1, j + 1, hij, hj => by
    rw [List.getD_cons_succ, List.getD_cons_succ]
    exact rising_at l h2 i j (by omega) (by simpa using hj)
/-- By counts, then by symbols. -/
def byCS (zs : List Int) (a b : Nat) : Prop := (zs.getD a 0).toNat < (zs.getD b 0).toNat ∨ ((zs.getD a 0).toNat = (zs.getD b 0).toNat ∧ a < b)
theorem ris_pair {zs : List Int} {ss : List Nat} (h : RisP zs ss) : ss.Pairwise (byCS zs) := by
  rw [List.pairwise_iff_getElem]
  intro i j hi hj hij
  have h1 := rising_at _ h.rise i j hij (by simpa using hj)
  have hm : ∀ k, (hk : k < ss.length) → (ss.map fun i => (zs.getD i 0).toNat).getD k 0 = (zs.getD ss[k] 0).toNat := fun k hk => by
    rw [List.getD_eq_getElem?_getD, List.getElem?_map, List.getElem?_eq_getElem hk]; rfl
  have hg : ∀ k, (hk : k < ss.length) → ss.getD k 0 = ss[k] := fun k hk => by
    rw [List.getD_eq_getElem?_getD, List.getElem?_eq_getElem hk]; rfl
  rw [hm i hi, hm j hj] at h1
  have hp : ∀ k, (hk : k < ss.length) → 0 < zs.getD ss[k] 0 := fun k hk => (posL_mem.1 (h.perm.mem_iff.1 (List.getElem_mem hk))).2
  have pi := hp i hi
  have pj := hp j hj
  unfold byCS
  by_cases he : (zs.getD ss[i] 0).toNat = (zs.getD ss[j] 0).toNat
  · right
    refine ⟨he, ?_⟩
    have := h.tie i j hij hj (by rw [hg i hi, hg j hj]; omega)
    rw [hg i hi, hg j hj] at this
    exact this
  · left; omega
theorem ris_unique {zs : List Int} {ss tt : List Nat} (h : RisP zs ss) (k : RisP zs tt) : ss = tt :=
  List.Perm.eq_of_pairwise (le := byCS zs) (fun a b _ _ h1 h2 => by unfold byCS at h1 h2; omega) (ris_pair h) (ris_pair k) (h.perm.trans k.perm.symm)
/-- The symbols that are used, by counts and then by symbols. -/
def leCS (zs : List Int) (a b : Nat) : Bool := decide ((zs.getD a 0).toNat < (zs.getD b 0).toNat) || (decide ((zs.getD a 0).toNat = (zs.getD b 0).toNat) && decide (a ≤ b))
theorem leCS_iff (zs : List Int) (a b : Nat) : leCS zs a b = true ↔ ((zs.getD a 0).toNat < (zs.getD b 0).toNat ∨ ((zs.getD a 0).toNat = (zs.getD b 0).toNat ∧ a ≤ b)) := by
  unfold leCS; simp
def risF (zs : List Int) : List Nat := (posL zs zs.length).mergeSort (leCS zs)
theorem risF_eq {zs : List Int} {ss : List Nat} (h : RisP zs ss) : ss = risF zs := by
  have h1 : ss.Pairwise fun a b => leCS zs a b = true := (ris_pair h).imp (fun {a b} q => by rw [leCS_iff]; unfold byCS at q; omega)
  have h2 : (risF zs).Pairwise fun a b => leCS zs a b = true := List.pairwise_mergeSort (le := leCS zs) (fun a b c p q => by rw [leCS_iff] at p q ⊢; omega) (fun a b => by rw [Bool.or_eq_true, leCS_iff, leCS_iff]; omega) _
  exact List.Perm.eq_of_pairwise (le := fun a b => leCS zs a b = true) (fun a b _ _ p q => by rw [leCS_iff] at p q; omega) h1 h2 (h.perm.trans (List.mergeSort_perm _ _).symm)
end Go.Proofs.YtbknflckdbfogaaGreat
namespace Go.Proofs.YtbknflckdbfogaaGreat
open Go.RowKit
set_option linter.unusedVariables false
set_option linter.unusedSimpArgs false

theorem chkC_zero {zs : List Int} {m : Int} (h : chkC zs m = 0) : zs.length ≤ 320 ∧ 1 ≤ m ∧ m ≤ 15 ∧ ∀ z ∈ zs, 0 ≤ z ∧ z ≤ 1000000 := by
  unfold chkC at h
  by_cases h1 : 320 < zs.length
  · rw [if_pos h1] at h; cases h
  · rw [if_neg h1] at h
    by_cases h2 : m < 1 ∨ 15 < m
    · rw [if_pos h2] at h; cases h
    · rw [if_neg h2] at h
      by_cases h3 : ∃ z ∈ zs, z < 0 ∨ 1000000 < z
      · rw [if_pos h3] at h; cases h
      · refine ⟨by omega, by omega, by omega, fun z hz => ?_⟩
        constructor
        · exact Int.not_lt.1 fun q => h3 ⟨z, hz, .inl q⟩
        · exact Int.not_lt.1 fun q => h3 ⟨z, hz, .inr q⟩
theorem own_lt_made {w : World} {B n : Nat} {g : Nat} {xs : List Value} (h : w.ownsRow B 3 1 (.slice (some ⟨g, 0, none⟩) n n) n xs) : g < w.heap.size := (h.lt g rfl).2
theorem fz_nums (l : List Nat) (n : Nat) (h : l.length = n) : fz (fun i => l.getD i 0) n = nch l := by
  subst h
  apply List.ext_getElem?
  intro j
  by_cases hj : j < l.length
  · rw [fz_at _ _ _ hj, nch_at _ _ hj]
  · rw [List.getElem?_eq_none (by rw [fz_len]; omega), List.getElem?_eq_none (by rw [nch_len]; omega)]
theorem own_belowB {w w' : World} {B C n sz : Nat} {ty : TypeId} {v : Value} {xs : List Value} (h : w.ownsRow C ty sz v n xs) (hb : Below B w w') (hv : ∀ g, v.ownBlock = some g → g < B) : w'.ownsRow C ty sz v n xs := by
  refine ⟨h.1, ?_⟩
  rcases h.2 with h | ⟨g, cap, cur, rfl, h2, h3, h4⟩
  · exact .inl h
  · exact .inr ⟨g, cap, cur, rfl, h2, by rw [hb.block g (hv g rfl)]; exact h3, h4⟩
/-- The first k counts of the symbols. -/
def wpF (ws : List Nat) (k : Nat) : Nat → Nat := fun j => if j < k then ws.getD j 0 else 0

set_option maxRecDepth 100000 in
set_option maxHeartbeats 2000000 in
theorem lengths_good (v : Value) (zs : List Int) (m : Nat) (w : World) (hR : IQ w v zs) (hk : chkC zs (m : Int) = 0) (hp : (posL zs zs.length).length ≤ 2 ^ m) :
    Calls Tryz.prog 99 #[v, .int .i64 (m : Int)] w fun e w' => ∃ (g : Nat) (ss : List Nat), e = .returned (.tuple #[.slice (some ⟨g, 0, none⟩) zs.length zs.length, .int .i64 0]) ∧ RisP zs ss ∧
      w'.ownsRow w.heap.size 3 1 (.slice (some ⟨g, 0, none⟩) zs.length zs.length) zs.length (nch (lensOf zs ss m)) ∧ Below w.heap.size w w' := by
  obtain ⟨h320, hm1, hm15, hzz⟩ := chkC_zero hk
  have HCK : Hid (Calls _ _ _ _ _) := chkC_any v zs (m : Int) w hR (by omega)
  rw [hk] at HCK
  have HRS : Hid (Calls _ _ _ _ _) := rising_any v zs w hR h320
  obtain ⟨g, o, cap, rfl, hg, hc⟩ := hR
  have HC : Hid (∀ i, i < zs.length → w.cell? ⟨g, o + i, none⟩ = some (.int .i64 (zs.getD i 0))) := hc
  have HZZ : Hid (∀ z ∈ zs, 0 ≤ z ∧ z ≤ 1000000) := hzz
  clear hc hzz
  go_enter Tryz.func99, Tryz.ntmps99
  go_wp2_with fail
  refine (Hid.out HCK : Calls _ _ _ _ _).mono ?_
  rintro e w1 ⟨rfl, hw1⟩
  obtain rfl := hw1.symm
  clear HCK
  go_wp2_with fail
  refine (Hid.out HRS : Calls _ _ _ _ _).mono ?_
  rintro e w1 ⟨u, ss, rfl, hris, hown, hb1⟩
  clear HRS hw1
  have hls : ss.length ≤ 2 ^ m := by rw [hris.perm.length_eq]; exact hp
  have hls2 : ss.length ≤ 320 := by rw [hris.perm.length_eq]; have := posL_len zs zs.length; omega
  obtain ⟨a, cu, rfl⟩ := own_sliceH hown
  have hmn : ((m : Int)).toNat = m := by omega
  have hm0 : (0 : Int) ≤ (m : Int) := by omega
  have h2m : 2 ^ m ≤ 2 ^ 15 := Nat.pow_le_pow_right (by decide) (by omega)
  have hwr : wrap64 ((2 : Int) ^ m) = ((2 ^ m : Nat) : Int) := by
    rw [show (2 : Int) ^ m = ((2 ^ m : Nat) : Int) by simp]
    generalize 2 ^ m = P at *
    unfold wrap64
    omega
  have HLS : Hid (ss.length ≤ 2 ^ m) := hls
  have hnl : ¬ ((2 ^ m : Nat) : Int) < (ss.length : Int) := by omega
  clear h2m hls hp
  generalize hP : 2 ^ m = P at hwr hnl
  clear hP
  obtain ⟨w2, hmk, hout, hb2⟩ := make_intsH zs.length w1 h320
  have hslt : ∀ gs, a = some ⟨gs, 0, none⟩ → gs < w1.heap.size := fun gs e => (hown.lt gs (by rw [e]; rfl)).2
  have hsym2 := own_belowH hown hb2
  have hbw2 := hb1.trans (hb2.mono hb1.size)
  have hol := own_lt_made hout
  have hlt2 := hb1.size
  clear hown hb1 hb2
  have hmem : ∀ j, j < ss.length → ss.getD j 0 < zs.length := fun j hj => by
    have : ss.getD j 0 ∈ ss := by rw [List.getD_eq_getElem?_getD, List.getElem?_eq_getElem hj]; simp
    exact (posL_mem.1 (hris.perm.mem_iff.1 this)).1
  by_cases h1 : ss.length = 1
  · have hnl1 : ¬ (P : Int) < 1 := by omega
    obtain ⟨gs, rfl⟩ : ∃ gs, a = some ⟨gs, 0, none⟩ := by
      rcases hsym2.2 with ⟨e, h0⟩ | ⟨gs, c1, cur, e, _⟩
      · omega
      · injection e with e1; exact ⟨gs, e1⟩
    have hc0 : w2.cell? ⟨gs, 0, none⟩ = some (.int .i64 (ss.getD 0 0 : Int)) := by
      have := World.ownsRow.cells hsym2 (g := gs) rfl 0 _ (nch_at ss 0 (by omega))
      rwa [Addr.add_mid] at this
    have hx := hmem 0 (by omega)
    have HL : Hid (fz (fun j => if j = ss.getD 0 0 then 1 else 0) zs.length = nch (lensOf zs ss m)) := by
      unfold Hid
      rw [← fz_nums (lensOf zs ss m) zs.length (putL_len _ _ _ _)]
      refine fz_congr fun j hj => ?_
      unfold lensOf lenF
      rw [if_pos h1, h1, putL, putL, getD_setN, List.length_replicate]
      by_cases e : j = ss.getD 0 0
      · rw [if_pos e, if_pos ⟨e.symm, hj⟩]
      · rw [if_neg e, if_neg (fun q => e q.1.symm), List.getD_eq_getElem?_getD, List.getElem?_replicate, if_pos hj]; rfl
    rw [h1] at *
    generalize hxx : ss.getD 0 0 = x at *
    clear hxx
    have hxi : (x : Int) < (zs.length : Int) := by omega
    have hco : w2.cell? ⟨w1.heap.size, x, none⟩ = some (.int .i64 0) := by
      have := World.ownsRow.cells hout (g := w1.heap.size) rfl x _ (fz_at _ _ x hx)
      rwa [Addr.add_mid, Nat.zero_add] at this
    have hfr : w2.frozen? ⟨w1.heap.size, x, none⟩ = false := by
      rcases hout.2 with ⟨e, _⟩ | ⟨g', c', cur, e, _, hg', _⟩
      · cases e
      · injection e with e1; injection e1 with e2; injection e2 with e3; rw [e3]; exact frozen_of_row _ _ _ _ _ hg'
    have hst := hout.stored x (.int .i64 ((1 : Nat) : Int))
    rw [fz_set, HL.out] at hst
    have HST : Hid _ := hst.1
    have HBF : Hid (Below w.heap.size w (w2.setCell ⟨w1.heap.size, x, none⟩ (.int .i64 ((1 : Nat) : Int)))) := hbw2.setCell (p := ⟨w1.heap.size, x, none⟩) hlt2 _
    clear hst hout hsym2 hbw2
    go_wp2
    go_ret2
    exact ⟨_, ss, rfl, hris, own_baseH HST.out hlt2, HBF.out⟩
  · obtain ⟨w3, hmk3, hwts, hb3⟩ := make_intsH ss.length w2 hls2
    have hout3 := own_belowH hout hb3
    have hsym3 := own_belowH hsym2 hb3
    have hbw3 := hbw2.trans (hb3.mono hbw2.size)
    have hl3 := own_lt_made hwts
    have hsz2 := hbw2.size
    have h1i : ¬ (ss.length : Int) = 1 := by omega
    have HSY : Hid (∀ j, j < ss.length → ∃ gs, a = some ⟨gs, 0, none⟩ ∧ gs < w1.heap.size ∧ w3.cell? ⟨gs, j, none⟩ = some (.int .i64 (ss.getD j 0 : Int))) := fun j hj => by
      have hlt := hsym2.lt
      rcases hsym2.2 with ⟨e, h0⟩ | ⟨gs, c1, cur, e, _⟩
      · omega
      · injection e with e1
        subst e1
        refine ⟨gs, rfl, hslt gs rfl, ?_⟩
        have := World.ownsRow.cells hsym3 (g := gs) rfl j _ (nch_at ss j hj)
        rwa [Addr.add_mid, Nat.zero_add] at this
    have HO3 : Hid _ := hout3
    have HBW3 : Hid (Below w.heap.size w w3) := hbw3
    have HC3 : Hid (∀ i, i < zs.length → w3.cell? ⟨g, o + i, none⟩ = some (.int .i64 (zs.getD i 0))) := fun i h => by rw [hbw3.cell (p := ⟨g, o + i, none⟩) hg]; exact HC.out i h
    have hgw2 : g < w2.heap.size := by omega
    clear hout hsym2 hbw2 hb3 hout3 hsym3 hbw3 HC
    have HZ : Hid (∀ j, j < ss.length → ((zs.getD (ss.getD j 0) 0).toNat : Int) = zs.getD (ss.getD j 0) 0) := fun j hj => by
      have : ss.getD j 0 ∈ ss := by rw [List.getD_eq_getElem?_getD, List.getElem?_eq_getElem hj]; simp
      have := (posL_mem.1 (hris.perm.mem_iff.1 this)).2
      omega
    have hwl : (wOf zs ss).length = ss.length := wOf_len zs ss
    have HWA : Hid (∀ j, j < ss.length → (wOf zs ss).getD j 0 = (zs.getD (ss.getD j 0) 0).toNat) := fun j hj => by
      unfold wOf
      rw [List.getD_eq_getElem?_getD, List.getElem?_map, List.getElem?_eq_getElem hj, List.getD_eq_getElem?_getD (l := ss), List.getElem?_eq_getElem hj]; rfl
    go_wp2
    go_loopw [44] (fun i wr => ∃ k : Nat, k ≤ ss.length ∧ i = .int .i64 (k : Int) ∧ wr.ownsRow w2.heap.size 3 1 (.slice (some ⟨w2.heap.size, 0, none⟩) ss.length ss.length) ss.length (fz (wpF (wOf zs ss) k) ss.length) ∧ Below w2.heap.size w3 wr) (fun i _ => ss.length - (intOf i).toNat)
    case atStart => exact ⟨0, by omega, rfl, by rw [fz_congr (h := wpF (wOf zs ss) 0) (fun j _ => by simp [wpF])] at hwts; exact hwts, Below.refl _ _⟩
    case round =>
      clear hwts
      obtain ⟨k, hks, rfl, hwts, hbel⟩ := hrel
      by_cases hlt : k < ss.length
      · obtain ⟨gs, rfl, hgs, hcs⟩ := HSY.out k hlt
        have hki : (k : Int) < (ss.length : Int) := by omega
        have hx := hmem k hlt
        have c1 : wr.cell? ⟨gs, k, none⟩ = some (.int .i64 (ss.getD k 0 : Int)) := by rw [hbel.cell (p := ⟨gs, k, none⟩) (by show gs < _; omega)]; exact hcs
        have c2 : wr.cell? ⟨g, o + ss.getD k 0, none⟩ = some (.int .i64 ((zs.getD (ss.getD k 0) 0).toNat : Int)) := by
          rw [hbel.cell (p := ⟨g, _, none⟩) hgw2, HZ.out k hlt]; exact HC3.out _ hx
        have c3 := hwts.cellAt k (by omega)
        rw [fz_at _ _ _ hlt] at c3
        have f3 := hwts.frozenAt k
        have hst := hwts.stored k (.int .i64 ((zs.getD (ss.getD k 0) 0).toNat : Int))
        rw [fz_set, fz_congr (h := wpF (wOf zs ss) (k + 1)) (fun j hj => by
          unfold wpF
          by_cases e : j = k
          · subst e; rw [if_pos rfl, if_pos (by omega), HWA.out j hj]
          · rw [if_neg e]
            by_cases q : j < k
            · rw [if_pos q, if_pos (by omega)]
            · rw [if_neg q, if_neg (by omega)])] at hst
        have HST : Hid _ := hst.1
        have HBF : Hid (Below w2.heap.size w3 (wr.setCell ⟨w2.heap.size, k, none⟩ (.int .i64 ((zs.getD (ss.getD k 0) 0).toNat : Int)))) := hbel.setCell (p := ⟨w2.heap.size, k, none⟩) (Nat.le_refl _) _
        generalize (zs.getD (ss.getD k 0) 0).toNat = y at *
        generalize hxx : ss.getD k 0 = x at *
        clear hxx hst hwts hbel
        have hxi : (x : Int) < (zs.length : Int) := by omega
        go_wp2
        go_roundw
        case rel => exact ⟨k + 1, by omega, by go_num, HST.out, HBF.out⟩
        case measure => simp [intOf]; omega
      · obtain rfl : k = ss.length := by omega
        rw [fz_congr (h := fun i => (wOf zs ss).getD i 0) (fun j hj => by unfold wpF; rw [if_pos hj]), fz_nums _ _ hwl] at hwts
        have hbw4 : Below w.heap.size w wr := HBW3.out.trans (hbel.mono hsz2)
        have hsz34 := hbel.size
        have HNRW : Hid (NR wr _ _) := rows_nums hwts
        clear hwts HZ HC3
        by_cases h0 : ss.length = 0
        · have hss : ss = [] := List.eq_nil_of_length_eq_zero h0
          subst hss
          have HBN : Hid (Calls _ _ _ _ _) := best_nil _ m wr HNRW.out (by omega) (by omega)
          have HOF : Hid (wr.ownsRow w1.heap.size 3 1 (.slice (some ⟨w1.heap.size, 0, none⟩) zs.length zs.length) zs.length (nch (lensOf zs [] m))) := by
            have := own_belowB HO3.out hbel (fun g' e => by simp [Value.ownBlock] at e; omega)
            rw [← fz_nums (lensOf zs [] m) zs.length (putL_len _ _ _ _)]
            rw [fz_congr (h := fun i => (lensOf zs [] m).getD i 0) (fun j hj => by
              show 0 = (List.replicate zs.length 0).getD j 0
              rw [List.getD_eq_getElem?_getD, List.getElem?_replicate, if_pos hj]; rfl)] at this
            exact this
          go_wp2_with fail
          refine (Hid.out HBN : Calls _ _ _ _ _).mono ?_
          rintro e w5 ⟨gb, rfl, hb5⟩
          have hoF := own_baseH (own_belowH HOF.out hb5) hlt2
          have hbF := hbw4.trans (hb5.mono hbw4.size)
          clear HBN HOF HO3 hb5 hbel
          go_wp2
          go_loopw [61] (fun i W => i = .int .i64 0 ∧ W = w5) (fun i _ => 0)
          case atStart => exact ⟨rfl, rfl⟩
          case round =>
            obtain ⟨rfl, rfl⟩ := hrel
            go_wp2
            go_ret2
            exact ⟨_, [], rfl, hris, hoF, hbF⟩
        · have hMx : ∀ y ∈ wOf zs ss, y ≤ 1000000 := fun y hy => by
            obtain ⟨i, hi, rfl⟩ := List.mem_map.1 hy
            have hil := (posL_mem.1 (hris.perm.mem_iff.1 hi)).1
            have hz : zs.getD i 0 ∈ zs := by rw [List.getD_eq_getElem?_getD, List.getElem?_eq_getElem hil]; simp
            have := HZZ.out _ hz
            omega
          have HBA : Hid (Calls _ _ _ _ _) := best_any _ (wOf zs ss) m wr HNRW.out (by omega) (by omega) (by omega) (by omega) (by rw [hwl]; exact HLS.out) hMx
          rw [hwl] at HBA
          go_wp2_with fail
          refine (Hid.out HBA : Calls _ _ _ _ _).mono ?_
          rintro e w5 ⟨gb, rfl, hbr, hb5⟩
          have hb35 : Below w2.heap.size w3 w5 := hbel.trans (hb5.mono (by omega))
          have hgb := hbr.lt gb rfl
          have HOF : Hid (w5.ownsRow w1.heap.size 3 1 (.slice (some ⟨w1.heap.size, 0, none⟩) zs.length zs.length) zs.length (fz (fun i => (putL ss (lenF zs ss m) zs.length 0).getD i 0) zs.length)) := by
            have := own_belowB HO3.out hb35 (fun g' e => by simp [Value.ownBlock] at e; omega)
            rw [fz_congr (h := fun i => (putL ss (lenF zs ss m) zs.length 0).getD i 0) (fun j hj => by
              show 0 = (List.replicate zs.length 0).getD j 0
              rw [List.getD_eq_getElem?_getD, List.getElem?_replicate, if_pos hj]; rfl)] at this
            exact this
          have HBR : Hid (∀ j, j < ss.length → w5.cell? ⟨gb, j, none⟩ = some (.int .i64 (lenF zs ss m j : Int))) := fun j hj => by
            have := hbr.cellAt j (by omega)
            rw [fz_at _ _ _ hj] at this
            unfold lenF; rw [if_neg h1]; exact this
          have HS5 : Hid (∀ j, j < ss.length → ∃ gs, a = some ⟨gs, 0, none⟩ ∧ gs < w1.heap.size ∧ w5.cell? ⟨gs, j, none⟩ = some (.int .i64 (ss.getD j 0 : Int))) := fun j hj => by
            obtain ⟨gs, e1, e2, e3⟩ := HSY.out j hj
            exact ⟨gs, e1, e2, by rw [hb35.cell (p := ⟨gs, j, none⟩) (by show gs < _; omega)]; exact e3⟩
          have HBW5 : Hid (Below w.heap.size w w5) := hbw4.trans (hb5.mono hbw4.size)
          clear HBA HNRW HO3 hbr hb5 hbel hb35 HSY hbw4 HBW3
          go_wp2
          go_loopw [61] (fun i wr => ∃ k : Nat, k ≤ ss.length ∧ i = .int .i64 (k : Int) ∧ wr.ownsRow w1.heap.size 3 1 (.slice (some ⟨w1.heap.size, 0, none⟩) zs.length zs.length) zs.length (fz (fun i => (putL ss (lenF zs ss m) zs.length k).getD i 0) zs.length) ∧ w5.grownBy wr (some w1.heap.size)) (fun i _ => ss.length - (intOf i).toNat)
          case atStart => exact ⟨0, by omega, rfl, HOF.out, grefl _ _⟩
          case round =>
            clear HOF
            obtain ⟨k, hks, rfl, hout, hgr⟩ := hrel
            by_cases hlt : k < ss.length
            · obtain ⟨gs, rfl, hgs, hcs⟩ := HS5.out k hlt
              have hki : (k : Int) < (ss.length : Int) := by omega
              have hx := hmem k hlt
              have c1 := hgr.cell hcs (by intro e; injection e with e; simp only at e; omega)
              have c2 := hgr.cell (HBR.out k hlt) (by intro e; injection e with e; simp only at e; omega)
              have c3 := hout.cellAt (ss.getD k 0) (by omega)
              rw [fz_at _ _ _ hx] at c3
              have f3 := hout.frozenAt (ss.getD k 0)
              have hst := hout.stored (ss.getD k 0) (.int .i64 (lenF zs ss m k : Int))
              rw [fz_set, fz_congr (h := fun i => (putL ss (lenF zs ss m) zs.length (k + 1)).getD i 0) (fun j hj => by
                show (if j = ss.getD k 0 then _ else _) = (putL ss (lenF zs ss m) zs.length (k + 1)).getD j 0
                rw [putL, getD_setN, putL_len]
                by_cases e : j = ss.getD k 0
                · rw [if_pos e, if_pos ⟨e.symm, hj⟩]
                · rw [if_neg e, if_neg (fun q => e q.1.symm)])] at hst
              have HST : Hid _ := hst.1
              have HGF : Hid (w5.grownBy (wr.setCell ⟨w1.heap.size, ss.getD k 0, none⟩ (.int .i64 (lenF zs ss m k : Int))) (some w1.heap.size)) := gset hgr _ _
              clear hst hout hgr hcs
              generalize hyy : lenF zs ss m k = y at *
              generalize hxx : ss.getD k 0 = x at *
              clear hxx hyy
              have hxi : (x : Int) < (zs.length : Int) := by omega
              go_wp2
              go_roundw
              case rel => exact ⟨k + 1, by omega, by go_num, HST.out, HGF.out⟩
              case measure => simp [intOf]; omega
            · obtain rfl : k = ss.length := by omega
              have hoF : wr.ownsRow w.heap.size 3 1 (.slice (some ⟨w1.heap.size, 0, none⟩) zs.length zs.length) zs.length (nch (lensOf zs ss m)) := by
                rw [← fz_nums (lensOf zs ss m) zs.length (putL_len _ _ _ _)]
                exact own_baseH hout hlt2
              have hbF : Below w.heap.size w wr := HBW5.out.grown hgr HBW5.out.size (fun q hq => by cases hq; exact hlt2)
              clear hout hgr
              go_wp2
              go_ret2
              exact ⟨_, ss, rfl, hris, hoF, hbF⟩
end Go.Proofs.YtbknflckdbfogaaGreat
