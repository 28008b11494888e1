/- Contract: retain's Keep. -/
import Derived.Test.YtkfaoldpcgokiaaRetB
import Derived.Test.YtkfaoldpcgokiaaRetC
namespace Go.Proofs.Ytkfaoldpcgokiaa
open Go.RowKit
set_option linter.unusedVariables false
set_option linter.unusedSimpArgs false

/-- The bools of a list. -/
def bF (l : List Bool) (i : Nat) : Bool := l.getD i false
theorem day_enters (t : Int) (W : World) : (callFunc 17 #[.int .i64 t]).run Try.prog W = .ok (.enter 17 #[.int .i64 t]) W := by kernel_rfl
theorem week_enters (t : Int) (W : World) : (callFunc 18 #[.int .i64 t]).run Try.prog W = .ok (.enter 18 #[.int .i64 t]) W := by kernel_rfl
theorem month_enters (t : Int) (W : World) : (callFunc 19 #[.int .i64 t]).run Try.prog W = .ok (.enter 19 #[.int .i64 t]) W := by kernel_rfl
theorem kp_or (p : Pol) (l : List Sn) (i : Nat) (h : i < l.length) :
    (((((false || decide ((l.length : Int) - i ≤ p.a)) || tgAt p.tg l i) || kAt p.d dyN l i) || kAt p.k wkN l i) || kAt p.m moF l i) = bF (kpL p l) i := by
  unfold bF
  rw [List.getD_eq_getElem?_getD, kpL_at p l i h, Option.getD_some]
  unfold tgAt kAt
  rw [List.getElem?_eq_getElem h, List.drop_eq_getElem_cons h, kp]
  simp only [Option.map_some, Option.getD_some, Bool.false_or]
  have : (decide ((l.length : Int) - i ≤ p.a)) = decide (((l.drop (i + 1)).length : Int) + 1 ≤ p.a) := decide_eq_decide.2 (by rw [List.length_drop]; omega)
  rw [this]
/-- What a policy asks for. -/
structure PolIn (w : World) (B : Nat) (p : Pol) (tv : Value) : Prop where
  ok : p.ok
  tv : TV w B tv p.tg
theorem PolIn.below {w w' : World} {B : Nat} {p : Pol} {tv : Value} (h : PolIn w B p tv) (hb : Below B w w') : PolIn w' B p tv := ⟨h.ok, h.tv.below hb⟩
theorem PolIn.mono {w : World} {B B' : Nat} {p : Pol} {tv : Value} (h : PolIn w B p tv) (hB : B ≤ B') : PolIn w B' p tv := ⟨h.ok, h.tv.mono hB⟩
set_option maxRecDepth 100000 in
set_option maxHeartbeats 1000000 in
theorem keep_bad (p : Pol) (tv v : Value) (l : List Sn) (w : World) (hP : PolIn w w.heap.size p tv) (hV : SV w w.heap.size v l) (hl : l.length ≤ 1000) (hb : errR p l ≠ 0) :
    Calls Try.prog 8 #[polV p tv, v] w fun e w' => e = .returned (.tuple #[.slice none 0 0, .int .i64 (errR p l)]) ∧ Below w.heap.size w w' := by
  obtain ⟨W1, hW1⟩ : ∃ W1, W1 = w.alloc (.cells #[.int .i64 p.a, .int .i64 p.d, .int .i64 p.k, .int .i64 p.m, tv] 24) := ⟨_, rfl⟩
  have hB1 : Below w.heap.size w W1 := by rw [hW1]; exact (Below.refl _ w).alloc (Nat.le_refl _) _
  have HC := check_any p tv v l W1 ((hV.below hB1).mono hB1.size) (by omega)
  have HB1 : Hid (Below w.heap.size w W1) := hB1
  have hbe : (errR p l == 0) = false := by rw [beq_eq_false_iff_ne]; exact hb
  obtain ⟨ta, tc, rfl, _, _⟩ := hP.tv
  unfold polV at HC ⊢
  generalize errR p l = E at *
  rw [hW1] at HC
  have HW1 : Hid (w.alloc (.cells #[.int .i64 p.a, .int .i64 p.d, .int .i64 p.k, .int .i64 p.m, .slice ta p.tg.length tc] 24) = W1) := hW1.symm
  clear hb hV hP hW1 hB1
  go_enter Try.func8, Try.ntmps8
  go_wp2_with fail
  refine HC.mono ?_
  rintro e w2 ⟨rfl, hb2⟩
  rw [show w.alloc (.cells #[.int .i64 p.a, .int .i64 p.d, .int .i64 p.k, .int .i64 p.m, .slice ta p.tg.length tc] 24) = W1 from HW1.out] at hb2
  have HB2 : Hid (Below w.heap.size w w2) := HB1.out.trans (hb2.mono HB1.out.size)
  clear hb2
  go_wp2
  go_ret2
  exact ⟨rfl, HB2.out⟩
set_option maxRecDepth 100000 in
set_option maxHeartbeats 2000000 in
theorem keep_good (p : Pol) (tv v : Value) (l : List Sn) (w : World) (hP : PolIn w w.heap.size p tv) (hV : SV w w.heap.size v l) (hl : l.length ≤ 1000) (hlg : ∀ x ∈ l, x.g.length ≤ 9223372036854775807) (hb : errR p l = 0) :
    Calls Try.prog 8 #[polV p tv, v] w fun e w' => ∃ g, e = .returned (.tuple #[.slice (some ⟨g, 0, none⟩) l.length l.length, .int .i64 0]) ∧ w.heap.size ≤ g ∧ BR w' g l.length (bF (kpL p l)) ∧ Below w.heap.size w w' := by
  obtain ⟨W1, hW1⟩ : ∃ W1, W1 = w.alloc (.cells #[.int .i64 p.a, .int .i64 p.d, .int .i64 p.k, .int .i64 p.m, tv] 24) := ⟨_, rfl⟩
  have hB1 : Below w.heap.size w W1 := by rw [hW1]; exact (Below.refl _ w).alloc (Nat.le_refl _) _
  have hN1 : W1.heap[w.heap.size]? = some (.cells #[.int .i64 p.a, .int .i64 p.d, .int .i64 p.k, .int .i64 p.m, tv] 24 (0, 0)) := by rw [hW1]; exact heap_alloc_new w _
  have HC := check_any p tv v l W1 ((hV.below hB1).mono hB1.size) (by omega)
  rw [hb] at HC
  have HB1 : Hid (Below w.heap.size w W1) := hB1
  have HN1 : Hid (W1.heap[w.heap.size]? = some (.cells #[.int .i64 p.a, .int .i64 p.d, .int .i64 p.k, .int .i64 p.m, tv] 24 (0, 0))) := hN1
  have HLG : Hid (∀ x ∈ l, x.g.length ≤ 9223372036854775807) := hlg
  have hneg : ¬ p.neg := fun h => by unfold errR at hb; rw [if_pos h] at hb; cases hb
  have htm : tmB 0 l = true := by
    unfold errR tmE at hb; rw [if_neg hneg] at hb
    by_cases h : tmB 0 l = true
    · exact h
    · rw [if_neg h] at hb; cases hb
  obtain ⟨q1, q2, q3, q4⟩ : 0 ≤ p.a ∧ 0 ≤ p.d ∧ 0 ≤ p.k ∧ 0 ≤ p.m := by unfold Pol.neg at hneg; omega
  obtain ⟨hin, hpw⟩ := tmB_all l 0 htm
  have HFD : Hid (∀ x ∈ l, ∀ W : World, Calls Try.prog 17 #[.int .i64 x.t] W fun e W' => e = .returned (.int .i64 (dyN x : Nat)) ∧ W' = W) := fun x hx W => by
    obtain ⟨h1, h2⟩ := hin x hx
    have := day_any x.t.toNat W (by omega)
    rwa [show ((x.t.toNat : Nat) : Int) = x.t by omega] at this
  have HFW : Hid (∀ x ∈ l, ∀ W : World, Calls Try.prog 18 #[.int .i64 x.t] W fun e W' => e = .returned (.int .i64 (wkN x : Nat)) ∧ W' = W) := fun x hx W => by
    obtain ⟨h1, h2⟩ := hin x hx
    have := week_any x.t.toNat W (by omega)
    rwa [show ((x.t.toNat : Nat) : Int) = x.t by omega] at this
  have HFM : Hid (∀ x ∈ l, ∀ W : World, Calls Try.prog 19 #[.int .i64 x.t] W fun e W' => e = .returned (.int .i64 (moF x : Nat)) ∧ W' = W) := fun x hx W => by
    obtain ⟨h1, h2⟩ := hin x hx
    have := month_any x.t.toNat W (by omega)
    rwa [show ((x.t.toNat : Nat) : Int) = x.t by omega] at this
  have HPW : Hid (l.Pairwise (fun x y => x.t ≤ y.t)) := hpw
  have HPI : Hid (PolIn w w.heap.size p tv) := hP
  have HV : Hid (SV w w.heap.size v l) := hV
  obtain ⟨n, hn⟩ : ∃ n, n = l.length := ⟨_, rfl⟩
  have HN : Hid (n = l.length) := hn
  have hn2 : n ≤ 1000 := by omega
  have p1 := hP.ok.a.2
  have p2 := hP.ok.d.2
  have p3 := hP.ok.k.2
  have p4 := hP.ok.m.2
  have HKP : Hid (∀ i, i < n → (((((false || decide ((n : Int) - i ≤ p.a)) || tgAt p.tg l i) || kAt p.d dyN l i) || kAt p.k wkN l i) || kAt p.m moF l i) = bF (kpL p l) i) := fun i hi => by
    rw [hn] at hi ⊢; exact kp_or p l i hi
  obtain ⟨ta, tc, rfl, -, -⟩ := hP.tv
  obtain ⟨va, vc, rfl, -, -⟩ := hV
  have hmk := make_bl n hn2
  rw [← hn] at HC HV
  rw [← hn]
  unfold polV at HC ⊢
  rw [hW1] at HC
  obtain ⟨m, hm⟩ : ∃ m, m = p.tg.length := ⟨_, rfl⟩
  rw [← hm] at hW1 HPI HC HN1 ⊢
  have HW1 : Hid (w.alloc (.cells #[.int .i64 p.a, .int .i64 p.d, .int .i64 p.k, .int .i64 p.m, .slice ta m tc] 24) = W1) := hW1.symm
  clear hb hP hW1 hB1 hm hn hl hN1 hlg hneg htm hin hpw
  go_enter Try.func8, Try.ntmps8
  go_wp2_with fail
  refine HC.mono ?_
  rintro e w2 ⟨rfl, hb2⟩
  rw [show w.alloc (.cells #[.int .i64 p.a, .int .i64 p.d, .int .i64 p.k, .int .i64 p.m, .slice ta m tc] 24) = W1 from HW1.out] at hb2
  have hw1s : w.heap.size < W1.heap.size := (Array.getElem?_eq_some_iff.1 HN1.out).1
  have HB2 : Hid (Below w.heap.size w w2) := HB1.out.trans (hb2.mono HB1.out.size)
  have hN2 : w2.heap[w.heap.size]? = _ := (hb2.block _ hw1s).trans HN1.out
  obtain ⟨W3, hW3⟩ : ∃ W3, W3 = w2.alloc (.cells ((List.range n).map fun _ => Value.bool false).toArray 4) := ⟨_, rfl⟩
  have hb3 : Below w2.heap.size w2 W3 := by rw [hW3]; exact (Below.refl _ _).alloc (Nat.le_refl _) _
  have HR3 : Hid (BR W3 w2.heap.size n (fun _ => false)) := by rw [hW3]; exact heap_alloc_new w2 _
  have hbx : w.heap.size < w2.heap.size := (Array.getElem?_eq_some_iff.1 hN2).1
  have hN3 : W3.heap[w.heap.size]? = _ := (hb3.block _ hbx).trans hN2
  have HB3 : Hid (Below w.heap.size w W3) := HB2.out.trans (hb3.mono (by omega))
  have HN3 : Hid (W3.heap[w.heap.size]? = some (.cells #[.int .i64 p.a, .int .i64 p.d, .int .i64 p.k, .int .i64 p.m, .slice ta m tc] 24 (0, 0))) := hN3
  clear hN2 hN3 hb3 hb2 HB1 HN1 HW1 hw1s
  have hm2 := hmk w2
  rw [← hW3] at hm2
  clear hmk hW3
  generalize w2.heap.size = G at *
  have HV3 : Hid (SV W3 G (.slice va n vc) l) := (HV.out.below HB3.out).mono (by omega)
  have HP3 : Hid (PolIn W3 G p (.slice ta m tc)) := (HPI.out.below HB3.out).mono (by omega)
  have c0 : W3.cell? ⟨w.heap.size, 0, none⟩ = some (.int .i64 p.a) := by unfold World.cell?; rw [HN3.out]; rfl
  have hwz : w.heap.size < W3.heap.size := (Array.getElem?_eq_some_iff.1 HN3.out).1
  go_wp2_with fail
  refine (last_any G n n _ p.a W3 HR3.out (Nat.le_refl _) hn2 q1 p1).mono ?_
  rintro e w4 ⟨rfl, hR4, hb4⟩
  have HR4 : Hid (BR w4 G n _) := hR4
  have HB4 : Hid (Below G W3 w4) := hb4
  have hN4 : w4.heap[w.heap.size]? = _ := (hb4.block _ hbx).trans HN3.out
  have c4 : w4.cell? ⟨w.heap.size, 4, none⟩ = some (.slice ta m tc) := by unfold World.cell?; rw [hN4]; rfl
  have hwz4 : w.heap.size < w4.heap.size := (Array.getElem?_eq_some_iff.1 hN4).1
  have HN4 : Hid (w4.heap[w.heap.size]? = some (.cells #[.int .i64 p.a, .int .i64 p.d, .int .i64 p.k, .int .i64 p.m, .slice ta m tc] 24 (0, 0))) := hN4
  clear hR4 hb4 hN4 c0 hm2
  go_wp2_with fail
  refine (tagged_any G n n _ _ _ l p.tg w4 HR4.out HN.out (Nat.le_refl _) hn2 (HV3.out.below HB4.out) (HP3.out.tv.below HB4.out) HP3.out.ok.n HP3.out.ok.tg HLG.out).mono ?_
  rintro e w5 ⟨rfl, hR5, hb5⟩
  have HR5 : Hid (BR w5 G n _) := hR5
  have HB5 : Hid (Below G W3 w5) := HB4.out.trans hb5
  have hN5 : w5.heap[w.heap.size]? = _ := (hb5.block _ hbx).trans HN4.out
  have c1 : w5.cell? ⟨w.heap.size, 1, none⟩ = some (.int .i64 p.d) := by unfold World.cell?; rw [hN5]; rfl
  have hwz5 : w.heap.size < w5.heap.size := (Array.getElem?_eq_some_iff.1 hN5).1
  have HN5 : Hid (w5.heap[w.heap.size]? = some (.cells #[.int .i64 p.a, .int .i64 p.d, .int .i64 p.k, .int .i64 p.m, .slice ta m tc] 24 (0, 0))) := hN5
  clear hR5 hb5 hN5 c4 HR4
  go_wp2_with fail
  refine (spans_any _ dyN G n n _ _ l p.d w5 HR5.out HN.out (Nat.le_refl _) hn2 q2 p2 (HV3.out.below HB5.out) HFD.out (rise_map dy_mono HPW.out) day_enters).mono ?_
  rintro e w6 ⟨rfl, hR6, hb6⟩
  have HR6 : Hid (BR w6 G n _) := hR6
  have HB6 : Hid (Below G W3 w6) := HB5.out.trans hb6
  have hN6 : w6.heap[w.heap.size]? = _ := (hb6.block _ hbx).trans HN5.out
  have c2 : w6.cell? ⟨w.heap.size, 2, none⟩ = some (.int .i64 p.k) := by unfold World.cell?; rw [hN6]; rfl
  have hwz6 : w.heap.size < w6.heap.size := (Array.getElem?_eq_some_iff.1 hN6).1
  have HN6 : Hid (w6.heap[w.heap.size]? = some (.cells #[.int .i64 p.a, .int .i64 p.d, .int .i64 p.k, .int .i64 p.m, .slice ta m tc] 24 (0, 0))) := hN6
  clear hR6 hb6 hN6 c1 HR5
  go_wp2_with fail
  refine (spans_any _ wkN G n n _ _ l p.k w6 HR6.out HN.out (Nat.le_refl _) hn2 q3 p3 (HV3.out.below HB6.out) HFW.out (rise_map wk_mono HPW.out) week_enters).mono ?_
  rintro e w7 ⟨rfl, hR7, hb7⟩
  have HR7 : Hid (BR w7 G n _) := hR7
  have HB7 : Hid (Below G W3 w7) := HB6.out.trans hb7
  have hN7 : w7.heap[w.heap.size]? = _ := (hb7.block _ hbx).trans HN6.out
  have c3 : w7.cell? ⟨w.heap.size, 3, none⟩ = some (.int .i64 p.m) := by unfold World.cell?; rw [hN7]; rfl
  have hwz7 : w.heap.size < w7.heap.size := (Array.getElem?_eq_some_iff.1 hN7).1
  clear hR7 hb7 hN7 c2 HR6
  go_wp2_with fail
  refine (spans_any _ moF G n n _ _ l p.m w7 HR7.out HN.out (Nat.le_refl _) hn2 q4 p4 (HV3.out.below HB7.out) HFM.out (rise_map mo_mono HPW.out) month_enters).mono ?_
  rintro e w8 ⟨rfl, hR8, hb8⟩
  have HR8 : Hid (BR w8 G n (bF (kpL p l))) := hR8.eq (fun i hi => (HKP.out i hi).symm)
  have HB8 : Hid (Below w.heap.size w w8) := HB3.out.trans ((HB7.out.trans hb8).mono (by omega))
  clear hR8 hb8 c3 HR7
  have hGz : w.heap.size ≤ G := by omega
  go_wp2
  go_ret2
  exact ⟨G, rfl, hGz, HR8.out, HB8.out⟩
end Go.Proofs.Ytkfaoldpcgokiaa
