/- deflate's fixedBlock, dynamicBlock. deflate's pack. deflate's pack: the walk. -/
import Derived.Test.YtaldkmceenlomaaGreatQDPur
import Derived.Test.YtaldkmceenlomaaGreatQDCat
import Derived.Test.YtaldkmceenlomaaGreatQSnkA
namespace Go.Proofs.YtaldkmceenlomaaGreat
open Go.RowKit
set_option linter.unusedVariables false
set_option linter.unusedSimpArgs false

theorem sgn_in {ts : List Tok} (hk : TkIn ts) : ∀ s ∈ signsN ts, s.sym < 286 ∧ (s.rep = true → s.far < 30) := fun s hs => by
  rcases List.mem_append.1 hs with h | h
  · obtain ⟨t, ht, rfl⟩ := List.mem_map.1 h
    obtain ⟨h1, h2⟩ := hk t ht
    by_cases h0 : t.l = 0
    · rw [sgT_lit h0]; exact ⟨by show t.b < 286; omega, fun e => (by cases e)⟩
    · obtain ⟨_, h3, h258, hd1, h32⟩ := isTok_rep h0 h1
      have n1 := (noF_near (x := t.l.toNat) (by omega) (by omega)).1
      have m1 := (noF_far (x := t.d.toNat) (by omega) (by omega)).1
      rw [sgT_rep h0]
      exact ⟨by show 257 + noF t.l.toNat false < 286; omega, fun _ => m1⟩
  · rw [List.mem_singleton.1 h]; exact ⟨by decide, fun e => (by cases e)⟩
theorem zz_zL (ns : List Nat) : zz ns = zL ns := rfl
theorem signsN_len (ts : List Tok) : (signsN ts).length = ts.length + 1 := by simp [signsN]
set_option maxRecDepth 100000 in
set_option maxHeartbeats 2000000 in
theorem fixedBlock_any (v : Value) (ts : List Tok) (last : Bool) (w : World) (hS : SgS w v (signsN ts)) (hk : TkIn ts) (hl : ts.length ≤ 4000) :
    Calls Tryz.prog 26 #[v, .bool last] w fun e w' => ∃ v', e = .returned v' ∧ PO w' w.heap.size v' (fixedP ts last) ∧ Below w.heap.size w w' := by
  have HSG : Hid (SgS w v (signsN ts)) := hS
  have HLN := lengths_any w
  have l1 : fixL.length = 288 := by decide +kernel
  have l2 : fixD.length = 32 := by decide +kernel
  have HBD : Hid (∀ (W : World) (vs vf : Value), SgS W v (signsN ts) → IQ W vs (zL fixL) → IQ W vf (zL fixD) → Calls Tryz.prog 52 #[v, vs, vf] W fun e w' => ∃ v', e = .returned v' ∧ PO w' W.heap.size v' (bodyPs fixL fixD (signsN ts)) ∧ Below W.heap.size W w') := fun W vs vf h1 h2 h3 => by
    have := dbody_any v vs vf (signsN ts) (zL fixL) (zL fixD) W h1 h2 h3 fixL_okl.err fixD_okl.err (by rw [signsN_len]; omega) (fun s hs => by
      have := sgn_in hk s hs
      rw [zL_len, zL_len, l1, l2]
      exact ⟨by omega, fun h => by have := this.2 h; omega⟩)
    rw [toN_zL, toN_zL] at this
    exact this
  have HHD : Hid (∀ W, Calls Tryz.prog 51 #[.bool last, .int .i64 1] W fun e w' => ∃ a c, e = .returned (.slice a 2 c) ∧ PO w' W.heap.size (.slice a 2 c) (headP last 1) ∧ Below W.heap.size W w') := fun W => head_any last 1 W (by decide)
  have HLE : Hid ((headP last 1).length + (bodyPs fixL fixD (signsN ts)).length ≤ 1000000) := by
    have h1 := bodyPs_len fixL fixD (signsN ts)
    rw [signsN_len] at h1
    have h2 : (headP last 1).length = 2 := rfl
    unfold Hid; omega
  have HFP : Hid (fixedP ts last = headP last 1 ++ bodyPs fixL fixD (signsN ts)) := rfl
  obtain ⟨a, cap, rfl, -, -⟩ := hS
  clear hk
  go_enter Tryz.func26, Tryz.ntmps26
  go_wp2_with fail
  refine HLN.mono ?_
  rintro e w1 ⟨vl, vd, rfl, ho1, ho2, hb1⟩
  have hq1 : IQ w1 vl (zL fixL) := own_IO ho1 (by decide)
  have hq2 : IQ w1 vd (zL fixD) := own_IO ho2 (by decide)
  have HQ1 : Hid (IQ w1 vl (zL fixL)) := hq1
  have HQ2 : Hid (IQ w1 vd (zL fixD)) := hq2
  obtain ⟨gl, ol, cl, rfl, -, -⟩ := hq1
  obtain ⟨gd, od, cd, rfl, -, -⟩ := hq2
  have HB1 : Hid (Below w.heap.size w w1) := hb1
  clear ho1 ho2 hb1 HLN
  go_wp2_with fail
  refine (HHD.out w1).mono ?_
  rintro e w2 ⟨ha, hc, rfl, ho, hb2⟩
  have HO2 : Hid (PO w2 w1.heap.size (.slice ha 2 hc) (headP last 1)) := ho
  have HB2 : Hid (Below w1.heap.size w1 w2) := hb2
  have HBC := HBD.out w2 _ _ ((HSG.out.below HB1.out).below (hb2.mono (Nat.le_refl _))) (HQ1.out.below hb2) (HQ2.out.below hb2)
  have hs1 := HB1.out.size
  have hs2 := hb2.size
  clear ho hb2
  go_wp2_with fail
  refine HBC.mono ?_
  rintro e w3 ⟨vb, rfl, ho3, hb3⟩
  have HO3 : Hid (PO w3 w2.heap.size vb (bodyPs fixL fixD (signsN ts))) := ho3
  obtain ⟨ba, bc, rfl⟩ := ho3.shape
  have HO23 : Hid (PO w3 w.heap.size (.slice ha 2 hc) (headP last 1)) := (HO2.out.below hb3).base hs1
  have HB3 : Hid (Below w.heap.size w w3) := HB1.out.trans ((HB2.out.trans (hb3.mono hs2)).mono hs1)
  have hs3 := HB3.out.size
  clear ho3 hb3 HBC
  go_wp2_with (at_builtin; refine append_ps rfl _ _ rfl w.heap.size w2.heap.size (.slice ha 2 hc) (.slice ba (bodyPs fixL fixD (signsN ts)).length bc) (headP last 1) (bodyPs fixL fixD (signsN ts)) rfl rfl HO23.out HO3.out HLE.out hs3 ?_; intro a' c' w4 hO4 hg4)
  have HO4 : Hid (PO w4 w.heap.size (.slice a' ((headP last 1).length + (bodyPs fixL fixD (signsN ts)).length) c') (fixedP ts last)) := by unfold Hid; rw [HFP.out]; exact hO4
  have HB4 : Hid (Below w.heap.size w w4) := HB3.out.grown hg4 hs3 (fun r hr => (World.ownsRow.lt HO23.out r hr).1)
  clear hO4 hg4
  go_wp2
  go_ret
  exact ⟨_, rfl, HO4.out, HB4.out⟩
/-- What dynamicBlock has in hand. -/
def DX (W : World) (v : Value) (ts : List Tok) (v1 : Value) (ls : List Nat) (v2 : Value) (ds : List Nat) (v4 : Value) (st : List Stp) (vf : Value) (fs : List Nat) (vt : Value) (td : List Nat) : Prop :=
  SgS W v (signsN ts) ∧ IQ W v1 (zL ls) ∧ IQ W v2 (zL ds) ∧ StS W v4 st ∧ IQ W vf (zL fs) ∧ IQ W vt (zL td)
theorem DX.below {W W' : World} {v : Value} {ts : List Tok} {v1 : Value} {ls : List Nat} {v2 : Value} {ds : List Nat} {v4 : Value} {st : List Stp} {vf : Value} {fs : List Nat} {vt : Value} {td : List Nat}
    (h : DX W v ts v1 ls v2 ds v4 st vf fs vt td) (hb : Below W.heap.size W W') : DX W' v ts v1 ls v2 ds v4 st vf fs vt td := by
  obtain ⟨h1, h2, h3, h4, h5, h6⟩ := h
  exact ⟨h1.below hb, h2.below hb, h3.below hb, h4.below hb, h5.below hb, h6.below hb⟩
theorem PO.made1 (w : World) (p : Prt) : PO (w.alloc (.cells #[.int .u32 (p.b : Int), .int .i64 (p.c : Int), .bool p.code] 121)) w.heap.size (.slice (some ⟨w.heap.size, 0, none⟩) 1 1) [p] :=
  ⟨rfl, .inr ⟨w.heap.size, 1, #[.int .u32 (p.b : Int), .int .i64 (p.c : Int), .bool p.code], rfl, Nat.le_refl _, heap_alloc_new w _, Nat.le_refl _, by decide, rfl, rfl⟩⟩
theorem PO.made3 (w : World) (p q r : Prt) : PO (w.alloc (.cells #[.int .u32 (p.b : Int), .int .i64 (p.c : Int), .bool p.code, .int .u32 (q.b : Int), .int .i64 (q.c : Int), .bool q.code, .int .u32 (r.b : Int), .int .i64 (r.c : Int), .bool r.code] 121)) w.heap.size (.slice (some ⟨w.heap.size, 0, none⟩) 3 3) [p, q, r] :=
  ⟨rfl, .inr ⟨w.heap.size, 3, #[.int .u32 (p.b : Int), .int .i64 (p.c : Int), .bool p.code, .int .u32 (q.b : Int), .int .i64 (q.c : Int), .bool q.code, .int .u32 (r.b : Int), .int .i64 (r.c : Int), .bool r.code], rfl, Nat.le_refl _, heap_alloc_new w _, Nat.le_refl _, by decide, rfl, rfl⟩⟩
theorem iq_own {w : World} {B n : Nat} {v : Value} {ns : List Nat} (h : w.ownsRow B 3 1 v n (nch ns)) (hn : 0 < n) (hl : ns.length = n) : IQ w v (zL ns) := by
  rcases h.2 with ⟨rfl, h0⟩ | ⟨g, cap, cur, rfl, _⟩
  · omega
  · refine ⟨g, 0, cap, by rw [zL_len, hl], (World.ownsRow.lt h g rfl).2, fun i hi => ?_⟩
    rw [zL_len] at hi
    rw [Nat.zero_add, nch_cell h i hi, zL_at]
theorem IQ.cellAt {w : World} {g o n cap : Nat} {ns : List Nat} (h : IQ w (.slice (some ⟨g, o, none⟩) n cap) (zL ns)) (i : Nat) (hi : i < ns.length) : w.cell? ⟨g, o + i, none⟩ = some (.int .i64 (ns.getD i 0 : Int)) ∧ g < w.heap.size := by
  obtain ⟨g', o', cap', e, hg, hc⟩ := h
  injection e with e1 e2 e3
  injection e1 with e1
  injection e1 with e4 e5
  subst e4 e5
  exact ⟨by rw [hc i (by rw [zL_len]; exact hi), zL_at], hg⟩
set_option maxRecDepth 100000 in
set_option maxHeartbeats 4000000 in
theorem dynamicBlock_any (v : Value) (ts : List Tok) (last : Bool) (w : World) (hS : SgS w v (signsN ts)) (hk : TkIn ts) (hl : ts.length ≤ 4000) :
    Calls Tryz.prog 27 #[v, .bool last] w fun e w' => ∃ v' ls ds fs, e = .returned v' ∧ PO w' w.heap.size v' (dynP ls ds fs ts last) ∧
      LnOk ls 257 286 15 (fun i => ∃ s ∈ signsN ts, s.sym = i) ∧ LnOk ds 1 30 15 (fun i => ∃ s ∈ signsN ts, s.rep = true ∧ s.far = i) ∧ LnOk fs 19 19 7 (fun i => ∃ s ∈ stpsF (zL (ls ++ ds)), s.sym.toNat = i) ∧ Below w.heap.size w w' := by
  have HSG : Hid (SgS w v (signsN ts)) := hS
  have HIN : Hid (∀ s ∈ signsN ts, s.sym < 286 ∧ (s.rep = true → s.far < 30)) := sgn_in hk
  have HSL : Hid ((signsN ts).length ≤ 4001) := by unfold Hid; rw [signsN_len]; omega
  have HLO := lengthsOf_any v (signsN ts) w hS (by have := HSL.out; omega) (sgn_in hk)
  obtain ⟨a, cap, rfl, -, -⟩ := hS
  obtain ⟨sn, hsn⟩ : ∃ sn, sn = (signsN ts).length := ⟨_, rfl⟩
  rw [← hsn] at HSG HLO ⊢
  clear hsn hk
  go_enter Tryz.func27, Tryz.ntmps27
  go_wp2_with fail
  refine HLO.mono ?_
  rintro e w1 ⟨g1, g2, ls, ds, rfl, hk1, hk2, hq1, hq2, hb1⟩
  have HK1 : Hid (LnOk ls 257 286 15 (fun i => ∃ s ∈ signsN ts, s.sym = i)) := hk1
  have HK2 : Hid (LnOk ds 1 30 15 (fun i => ∃ s ∈ signsN ts, s.rep = true ∧ s.far = i)) := hk2
  have HB1 : Hid (Below w.heap.size w w1) := hb1
  have HSG1 : Hid (SgS w1 (.slice a sn cap) (signsN ts)) := HSG.out.below hb1
  have HQ1 : Hid (IQ w1 (.slice (some ⟨g1, 0, none⟩) ls.length 286) (zL ls)) := hq1
  have HQ2 : Hid (IQ w1 (.slice (some ⟨g2, 0, none⟩) ds.length 30) (zL ds)) := hq2
  have ll1 := hk1.lo
  have ll2 := hk1.hi
  have dl1 := hk2.lo
  have dl2 := hk2.hi
  obtain ⟨nl, hnl⟩ : ∃ nl, nl = ls.length := ⟨_, rfl⟩
  obtain ⟨nd, hnd⟩ : ∃ nd, nd = ds.length := ⟨_, rfl⟩
  have HNL : Hid (nl = ls.length) := hnl
  have HND : Hid (nd = ds.length) := hnd
  rw [← hnl] at HQ1 ll1 ll2 ⊢
  rw [← hnd] at HQ2 dl1 dl2 ⊢
  obtain ⟨W2, hW2⟩ : ∃ W2, W2 = w1.alloc (.cells #[.slice (some ⟨g1, 0, none⟩) nl 286, .slice (some ⟨g2, 0, none⟩) nd 30] 42) := ⟨_, rfl⟩
  have hb2 : Below w1.heap.size w1 W2 := by rw [hW2]; exact (Below.refl _ _).alloc (Nat.le_refl _) _
  have hn2 : W2.heap[w1.heap.size]? = some (.cells #[.slice (some ⟨g1, 0, none⟩) nl 286, .slice (some ⟨g2, 0, none⟩) nd 30] 42 (0, 0)) := by rw [hW2]; exact heap_alloc_new w1 _
  have hCC := concat2 w1.heap.size (fun i => if i = 0 then .slice (some ⟨g1, 0, none⟩) nl 286 else .slice (some ⟨g2, 0, none⟩) nd 30) (twoL ls ds) W2 (Array.getElem?_eq_some_iff.1 hn2).1
    (fun i hi => by rw [cell_of_row _ _ _ _ _ _ hn2]; rcases (by omega : i = 0 ∨ i = 1) with rfl | rfl <;> rfl)
    (fun i hi => by
      rcases (by omega : i = 0 ∨ i = 1) with rfl | rfl
      · exact HQ1.out.below hb2
      · exact HQ2.out.below hb2)
    (fun i hi => by
      rcases (by omega : i = 0 ∨ i = 1) with rfl | rfl
      · show 1 ≤ ls.length ∧ ls.length ≤ 300; omega
      · show 1 ≤ ds.length ∧ ds.length ≤ 300; omega)
  have hcat : catN (twoL ls ds) 2 = ls ++ ds := by simp [catN, twoL]
  rw [hcat] at hCC
  have HW2 : Hid (w1.alloc (.cells #[.slice (some ⟨g1, 0, none⟩) nl 286, .slice (some ⟨g2, 0, none⟩) nd 30] 42) = W2) := hW2.symm
  have HB2 : Hid (Below w1.heap.size w1 W2) := hb2
  have hs1 := hb1.size
  clear HLO hb1 hq1 hq2 hk1 hk2 hnl hnd hW2 hn2 hcat HSG hb2
  go_wp2_with fail
  rw [show w1.alloc (.cells #[.slice (some ⟨g1, 0, none⟩) nl 286, .slice (some ⟨g2, 0, none⟩) nd 30] 42) = W2 from HW2.out]
  refine hCC.mono ?_
  rintro e w3 ⟨v3, rfl, ho3, hb3⟩
  have HB3 : Hid (Below w1.heap.size w1 w3) := HB2.out.trans (hb3.mono HB2.out.size)
  have hcl : (ls ++ ds).length = nl + nd := by rw [List.length_append, HNL.out, HND.out]
  have HCL : Hid ((ls ++ ds).length = nl + nd) := hcl
  rw [hcl] at ho3
  obtain ⟨g3, c3, rfl, hc3, hc3m⟩ : ∃ g3 c3, v3 = .slice (some ⟨g3, 0, none⟩) (nl + nd) c3 ∧ nl + nd ≤ c3 ∧ c3 ≤ 9223372036854775807 := by
    rcases ho3.2 with ⟨_, h0⟩ | ⟨g, c, cur, h1, _, _, h2, h3, _⟩
    · omega
    · unfold maxLen at h3; exact ⟨g, c, h1, h2, by omega⟩
  have hzl : (zL (ls ++ ds)).length = nl + nd := by rw [zL_len, hcl]
  have hST := steps_any g3 0 c3 (zL (ls ++ ds)) w3 (World.ownsRow.lt ho3 g3 rfl).2 (fun i hi => by rw [Nat.zero_add, nch_cell ho3 i (by rw [zL_len] at hi; exact hi), zL_at]) (by omega) hc3m (by omega)
  rw [hzl] at hST
  clear hCC hb3 ho3 HW2 hcl hzl
  go_wp2_with fail
  refine hST.mono ?_
  rintro e w4 ⟨v4, rfl, ho4, hb4⟩
  have HB4 : Hid (Below w1.heap.size w1 w4) := HB3.out.trans (hb4.mono HB3.out.size)
  have hst4 : StS w4 v4 (stpsF (zL (ls ++ ds))) := StS.own ho4
  have h15 : ∀ y ∈ ls ++ ds, y ≤ 15 := fun y hy => (List.mem_append.1 hy).elim (HK1.out.le y) (HK2.out.le y)
  have hin : StIn (stpsF (zL (ls ++ ds))) := stpsF_in h15
  have hsl : (stpsF (zL (ls ++ ds))).length ≤ 1000 := by
    obtain ⟨f1, f2, f3⟩ := stK_far (zL (ls ++ ds)) (zL (ls ++ ds)).length
    have h2 := HCL.out
    have h3 : (zL (ls ++ ds)).length = nl + nd := by rw [zL_len]; exact h2
    unfold stpsF; omega
  have hFI := firstLengths_any v4 _ w4 hst4 hsl hin
  have HIN4 : Hid (StIn (stpsF (zL (ls ++ ds)))) := hin
  have HSL4 : Hid ((stpsF (zL (ls ++ ds))).length ≤ 1000) := hsl
  obtain ⟨st, hst⟩ : ∃ st, st = stpsF (zL (ls ++ ds)) := ⟨_, rfl⟩
  have HSTE : Hid (stpsF (zL (ls ++ ds)) = st) := hst.symm
  rw [← hst] at hst4 hFI HIN4 HSL4
  have HST4 : Hid (StS w4 v4 st) := hst4
  obtain ⟨a4, c4, rfl, -, -⟩ := hst4
  clear hST hb4 ho4 hin hsl h15 hst
  go_wp2_with fail
  refine hFI.mono ?_
  rintro e w5 ⟨g5, fs, rfl, hfl, hfk, ho5, hb5⟩
  have HFK : Hid (LnOk fs 19 19 7 (fun i => ∃ s ∈ st, s.sym.toNat = i)) := hfk
  have HFL : Hid (fs.length = 19) := hfl
  have HB5 : Hid (Below w1.heap.size w1 w5) := HB4.out.trans (hb5.mono HB4.out.size)
  have HQ5 : Hid (IQ w5 (.slice (some ⟨g5, 0, none⟩) 19 19) (zL fs)) := iq_own ho5 (by decide) hfl
  have HST5 : Hid (StS w5 (.slice a4 st.length c4) st) := HST4.out.below hb5
  have hTF := toldFirsts_any g5 w4.heap.size fs w5 ho5 hfl
  clear hFI hfl hfk ho5 hb5
  go_wp2_with fail
  refine hTF.mono ?_
  rintro e w6 ⟨p6, c6, rfl, hq6, hb6⟩
  have HB6 : Hid (Below w1.heap.size w1 w6) := HB5.out.trans (hb6.mono HB5.out.size)
  have ht7 : ∀ y ∈ lnCut (tldL fs) 4, y ≤ 7 := fun y hy => by
    obtain ⟨t, ht, rfl⟩ := List.mem_map.1 (List.mem_of_mem_take hy)
    by_cases htl : t < fs.length
    · exact HFK.out.le _ (by rw [List.getD_eq_getElem?_getD, List.getElem?_eq_getElem htl]; exact List.getElem_mem htl)
    · rw [List.getD_eq_getElem?_getD, List.getElem?_eq_none (by omega)]; exact Nat.zero_le _
  have htl4 : 4 ≤ (lnCut (tldL fs) 4).length := by rw [lnCut_len]; exact cutN_ge _ _ _ (by rw [tldL_len]; omega)
  have htl19 : (lnCut (tldL fs) 4).length ≤ 19 := by
    have := cutN_le (zL (tldL fs)) 4 (tldL fs).length
    rw [lnCut_len]; rw [tldL_len] at this ⊢; exact this
  have HDY : Hid (dynP ls ds fs ts last = ((dynHd ls ds fs last ++ tolP (lnCut (tldL fs) 4)) ++ stpPs fs st) ++ bodyPs ls ds (signsN ts)) := by unfold Hid dynP; rw [HSTE.out]
  have HDH : Hid (dynHd ls ds fs last = headP last 2 ++ [⟨nl - 257, 5, false⟩, ⟨nd - 1, 5, false⟩, ⟨(lnCut (tldL fs) 4).length - 4, 4, false⟩]) := by unfold Hid; rw [HNL.out, HND.out]; rfl
  obtain ⟨td, htd⟩ : ∃ td, td = lnCut (tldL fs) 4 := ⟨_, rfl⟩
  rw [← htd] at ht7 htl4 htl19 HDY HDH hq6 ⊢
  have HT7 : Hid (∀ y ∈ td, y ≤ 7) := ht7
  have HDX : Hid (DX w6 (.slice a sn cap) ts (.slice (some ⟨g1, 0, none⟩) nl 286) ls (.slice (some ⟨g2, 0, none⟩) nd 30) ds (.slice a4 st.length c4) st (.slice (some ⟨g5, 0, none⟩) 19 19) fs (.slice (some ⟨p6, 0, none⟩) td.length c6) td) :=
    ⟨HSG1.out.below HB6.out, HQ1.out.below HB6.out, HQ2.out.below HB6.out, HST5.out.below hb6, HQ5.out.below hb6, hq6⟩
  obtain ⟨nt, hnt⟩ : ∃ nt, nt = td.length := ⟨_, rfl⟩
  have HNT : Hid (nt = td.length) := hnt
  rw [← hnt] at htl4 htl19 HDX HDH ⊢
  have hs6 := HB6.out.size
  have hHD := head_any last 2 w6 (by decide)
  rw [show ((2 : Nat) : Int) = 2 from rfl] at hHD
  clear hTF hq6 hb6 ht7 htd hnt HST4 HST5 HQ5 HQ1 HQ2 HSG1 HB2 HB3 HB4 HB5
  go_wp2_with fail
  refine hHD.mono ?_
  rintro e w7 ⟨ha, hc, rfl, ho7, hb7⟩
  have HB7 : Hid (Below w6.heap.size w6 w7) := hb7
  have HO7 : Hid (PO w7 w6.heap.size (.slice ha 2 hc) (headP last 2)) := ho7
  have hwl : IntKind.i64.wrap ((nl : Int) - 257) = ((nl - 257 : Nat) : Int) := by rw [IntKind.wrap_i64]; omega
  have hwd : IntKind.i64.wrap ((nd : Int) - 1) = ((nd - 1 : Nat) : Int) := by rw [IntKind.wrap_i64]; omega
  have hwt : IntKind.i64.wrap ((nt : Int) - 4) = ((nt - 4 : Nat) : Int) := by rw [IntKind.wrap_i64]; omega
  have HN1 : Hid (∀ W, Calls Tryz.prog 57 #[.int .i64 ((nl - 257 : Nat) : Int), .int .i64 5] W fun e w' => e = .returned (pv ⟨nl - 257, 5, false⟩) ∧ Below W.heap.size W w') := fun W => number_any (nl - 257) 5 W (by omega)
  have HN2 : Hid (∀ W, Calls Tryz.prog 57 #[.int .i64 ((nd - 1 : Nat) : Int), .int .i64 5] W fun e w' => e = .returned (pv ⟨nd - 1, 5, false⟩) ∧ Below W.heap.size W w') := fun W => number_any (nd - 1) 5 W (by omega)
  have HN3 : Hid (∀ W, Calls Tryz.prog 57 #[.int .i64 ((nt - 4 : Nat) : Int), .int .i64 4] W fun e w' => e = .returned (pv ⟨nt - 4, 4, false⟩) ∧ Below W.heap.size W w') := fun W => number_any (nt - 4) 4 W (by omega)
  have HOR6 : Hid (∀ r, (Value.slice ha 2 hc).ownBlock = some r → w6.heap.size ≤ r) := fun r hr => (World.ownsRow.lt HO7.out r hr).1
  have hs7 := hb7.size
  have hnl2 : nl - 257 ≤ 29 := by omega
  unfold pv at HN1 HN2 HN3
  generalize nl - 257 = xl at *
  generalize nd - 1 = xd at *
  generalize nt - 4 = xt at *
  clear ho7 hb7 hHD
  go_wp2_with fail
  refine (HN1.out w7).mono ?_
  rintro e w8 ⟨rfl, hb8⟩
  have HB8 : Hid (Below w6.heap.size w6 w8) := HB7.out.trans (hb8.mono hs7)
  have HO8 : Hid (PO w8 w6.heap.size (.slice ha 2 hc) (headP last 2)) := HO7.out.below hb8
  clear hb8
  go_wp2_with fail
  refine (HN2.out w8).mono ?_
  rintro e w9 ⟨rfl, hb9⟩
  have HB9 : Hid (Below w6.heap.size w6 w9) := HB8.out.trans (hb9.mono HB8.out.size)
  have HO9 : Hid (PO w9 w6.heap.size (.slice ha 2 hc) (headP last 2)) := HO8.out.below hb9
  clear hb9
  go_wp2_with fail
  refine (HN3.out w9).mono ?_
  rintro e wa ⟨rfl, hba⟩
  have HBA : Hid (Below w6.heap.size w6 wa) := HB9.out.trans (hba.mono HB9.out.size)
  have HMA : Hid (PO (wa.alloc (.cells #[.int .u32 (xl : Int), .int .i64 5, .bool false, .int .u32 (xd : Int), .int .i64 5, .bool false, .int .u32 (xt : Int), .int .i64 4, .bool false] 121)) wa.heap.size (.slice (some ⟨wa.heap.size, 0, none⟩) 3 3) [⟨xl, 5, false⟩, ⟨xd, 5, false⟩, ⟨xt, 4, false⟩]) := PO.made3 wa ⟨xl, 5, false⟩ ⟨xd, 5, false⟩ ⟨xt, 4, false⟩
  have HOA : Hid (∀ o, PO (wa.alloc o) w6.heap.size (.slice ha 2 hc) (headP last 2)) := fun o => (HO9.out.below hba).below ((Below.refl _ _).alloc (Nat.le_refl _) _)
  have HLE5 : Hid ((headP last 2).length + ([⟨xl, 5, false⟩, ⟨xd, 5, false⟩, ⟨xt, 4, false⟩] : List Prt).length ≤ 1000000) := by unfold Hid headP; simp
  have HSA : Hid (∀ o, w6.heap.size ≤ (wa.alloc o).heap.size) := fun o => by rw [World.size_alloc]; have := HBA.out.size; omega
  clear hba hwl hwd hwt HN1 HN2 HN3
  go_upto_region 6 with (at_builtin; refine append_ps rfl _ _ rfl w6.heap.size wa.heap.size (.slice ha 2 hc) (.slice (some ⟨wa.heap.size, 0, none⟩) 3 3) (headP last 2) [⟨xl, 5, false⟩, ⟨xd, 5, false⟩, ⟨xt, 4, false⟩] rfl rfl (HOA.out _) HMA.out HLE5.out (HSA.out _) ?_; intro a' c' wb hOb hgb)
  have HOB : Hid (PO wb w6.heap.size (.slice a' 5 c') (dynHd ls ds fs last)) := by unfold Hid; rw [HDH.out]; exact hOb
  have HBB : Hid (Below w6.heap.size w6 wb) := (HBA.out.alloc HBA.out.size _).grown hgb (HSA.out _) (fun r hr => HOR6.out r hr)
  have HTN : Hid (td.length = nt) := HNT.out.symm
  have HBD5 : Hid ((dynHd ls ds fs last).length = 5) := by unfold Hid; rw [HDH.out]; rfl
  clear hOb hgb HOA HMA HLE5 HSA HO7 HO8 HO9 HB7 HB8 HB9
  go_wp2
  go_loopw [45, 10, 12] (fun i o _ wr => ∃ (k qq : Nat) (qa : Option Addr) (qc : Nat), k ≤ nt ∧ i = .int .i64 (k : Int) ∧ o = .slice qa qq qc ∧ Hid (qq = (dynHd ls ds fs last ++ tolP (td.take k)).length) ∧ PO wr w6.heap.size (.slice qa qq qc) (dynHd ls ds fs last ++ tolP (td.take k)) ∧ Below w6.heap.size w6 wr) (fun i _ _ _ => nt - (intOf i).toNat)
  case atStart => exact ⟨0, 5, a', c', Nat.zero_le _, rfl, rfl, by unfold Hid; rw [List.length_append, HBD5.out]; rfl, by have := HOB.out; rw [show dynHd ls ds fs last ++ tolP (td.take 0) = dynHd ls ds fs last by simp [tolP]]; exact this, HBB.out⟩
  case round =>
    clear HOB HBB
    obtain ⟨k, qq, qa, qc, hk, rfl, rfl, HQQ, hO, hb⟩ := hrel
    have HO : Hid (PO wr w6.heap.size (.slice qa qq qc) (dynHd ls ds fs last ++ tolP (td.take k))) := hO
    have HB : Hid (Below w6.heap.size w6 wr) := hb
    have hsr := hb.size
    have hor : ∀ r, (Value.slice qa qq qc).ownBlock = some r → w6.heap.size ≤ r := fun r hr => (World.ownsRow.lt hO r hr).1
    have HOR : Hid (∀ r, (Value.slice qa qq qc).ownBlock = some r → w6.heap.size ≤ r) := hor
    have HLQ : Hid ((dynHd ls ds fs last ++ tolP (td.take k)).length ≤ 30) := by
      unfold Hid
      rw [List.length_append, HBD5.out]
      unfold tolP
      rw [List.length_map, List.length_take]; omega
    clear hO hb hor
    by_cases hlt : k < nt
    · have hki : (k : Int) < (nt : Int) := by omega
      have hkt : k < td.length := by rw [HTN.out]; exact hlt
      obtain ⟨c0, hp6⟩ := IQ.cellAt (HDX.out.below HB.out).2.2.2.2.2 k hkt
      rw [Nat.zero_add] at c0
      have hge : td.getD k 0 = td[k] := by rw [List.getD_eq_getElem?_getD, List.getElem?_eq_getElem hkt]; rfl
      have HTK : Hid (dynHd ls ds fs last ++ tolP (td.take (k + 1)) = (dynHd ls ds fs last ++ tolP (td.take k)) ++ [⟨td.getD k 0, 3, false⟩]) := by
        unfold Hid
        rw [hge, List.append_assoc, List.take_add_one, List.getElem?_eq_getElem hkt]
        unfold tolP
        rw [List.map_append]
        rfl
      clear hge
      have hy7 : td.getD k 0 ≤ 7 := HT7.out _ (by rw [List.getD_eq_getElem?_getD, List.getElem?_eq_getElem hkt]; exact List.getElem_mem hkt)
      generalize td.getD k 0 = y at *
      obtain ⟨Lk, hLk⟩ : ∃ Lk, Lk = dynHd ls ds fs last ++ tolP (td.take k) := ⟨_, rfl⟩
      rw [← hLk] at HO HLQ HTK
      clear hLk
      have HNU := number_any y 3 wr (by omega)
      rw [show ((3 : Nat) : Int) = 3 from rfl] at HNU
      unfold pv at HNU
      go_wp2_with fail
      refine HNU.mono ?_
      rintro e wy ⟨rfl, hby⟩
      have HBY : Hid (Below w6.heap.size w6 wy) := HB.out.trans (hby.mono hsr)
      have HMY : Hid (PO (wy.alloc (.cells #[.int .u32 (y : Int), .int .i64 3, .bool false] 121)) wy.heap.size (.slice (some ⟨wy.heap.size, 0, none⟩) 1 1) [⟨y, 3, false⟩]) := PO.made1 wy ⟨y, 3, false⟩
      have HOY : Hid (∀ o, PO (wy.alloc o) w6.heap.size (.slice qa qq qc) Lk) := fun o => (HO.out.below hby).below ((Below.refl _ _).alloc (Nat.le_refl _) _)
      have HLE5 : Hid (Lk.length + ([⟨y, 3, false⟩] : List Prt).length ≤ 1000000) := by have := HLQ.out; unfold Hid; simp only [List.length_cons, List.length_nil]; omega
      have HSA : Hid (∀ o, w6.heap.size ≤ (wy.alloc o).heap.size) := fun o => by rw [World.size_alloc]; have := HBY.out.size; omega
      clear hby HNU c0 hkt
      go_wp2_with (at_builtin; refine append_ps rfl _ _ rfl w6.heap.size wy.heap.size (.slice qa qq qc) (.slice (some ⟨wy.heap.size, 0, none⟩) 1 1) Lk [⟨y, 3, false⟩] rfl rfl (HOY.out _) HMY.out HLE5.out (HSA.out _) ?_; intro a9 c9 w9 hO9 hg9)
      have HO9 : Hid (PO w9 w6.heap.size (.slice a9 (Lk.length + 1) c9) (dynHd ls ds fs last ++ tolP (td.take (k + 1)))) := by unfold Hid; rw [HTK.out]; exact hO9
      have HQ9 : Hid (Lk.length + 1 = (dynHd ls ds fs last ++ tolP (td.take (k + 1))).length) := by unfold Hid; rw [HTK.out, List.length_append]; rfl
      have HB9 : Hid (Below w6.heap.size w6 w9) := (HBY.out.alloc HBY.out.size _).grown hg9 (HSA.out _) (fun r hr => HOR.out r hr)
      clear hO9 hg9
      go_wp2
      go_roundw
      case rel => exact ⟨k + 1, _, a9, c9, by omega, by go_num, rfl, HQ9.out, HO9.out, HB9.out⟩
      case measure => simp [intOf]; omega
    · have hki : ¬ (k : Int) < (nt : Int) := by omega
      obtain rfl : k = nt := by omega
      rw [List.take_of_length_le (by rw [HTN.out]; exact Nat.le_refl _)] at HO HLQ
      have HXR := HDX.out.below HB.out
      have hSP := stepParts_any _ _ st fs wr HXR.2.2.2.1 HXR.2.2.2.2.1 (HFK.out.okl (by decide) (by decide)) HFL.out HSL4.out HIN4.out
      obtain ⟨L1, hL1⟩ : ∃ L1, L1 = dynHd ls ds fs last ++ tolP td := ⟨_, rfl⟩
      rw [← hL1] at HO HLQ HDY
      have HSPL : Hid ((stpPs fs st).length ≤ 2000) := by unfold Hid; rw [stpPs_len]; have := HSL4.out; omega
      clear hL1 HXR
      go_wp2_with fail
      refine hSP.mono ?_
      rintro e wx ⟨vx, rfl, hox, hbx⟩
      obtain ⟨xa, xc, rfl⟩ := hox.shape
      have HBX : Hid (Below w6.heap.size w6 wx) := HB.out.trans (hbx.mono hsr)
      have HUX : Hid (PO wx wr.heap.size (.slice xa (stpPs fs st).length xc) (stpPs fs st)) := hox
      have HOX : Hid (PO wx w6.heap.size (.slice qa qq qc) L1) := HO.out.below hbx
      have HLEX : Hid (L1.length + (stpPs fs st).length ≤ 1000000) := by have := HLQ.out; have := HSPL.out; unfold Hid; omega
      have hsx := HBX.out.size
      clear hox hbx hSP
      go_upto_region 12 with (at_builtin; refine append_ps rfl _ _ rfl w6.heap.size wr.heap.size (.slice qa qq qc) (.slice xa (stpPs fs st).length xc) L1 (stpPs fs st) rfl rfl HOX.out HUX.out HLEX.out hsx ?_; intro a9 c9 w9 hO9 hg9)
      obtain ⟨L2, hL2⟩ : ∃ L2, L2 = L1 ++ stpPs fs st := ⟨_, rfl⟩
      rw [← hL2] at hO9 HDY
      have HL2 : Hid (L2.length = L1.length + (stpPs fs st).length) := by unfold Hid; rw [hL2, List.length_append]
      have HO9 : Hid (PO w9 w6.heap.size (.slice a9 (L1.length + (stpPs fs st).length) c9) L2) := hO9
      have HB9 : Hid (Below w6.heap.size w6 w9) := HBX.out.grown hg9 hsx (fun r hr => HOR.out r hr)
      have HX9 := HDX.out.below HB9.out
      have HOKL : Hid (OkL ls) := HK1.out.okl (by decide) (by decide)
      have HOKD : Hid (OkL ds) := HK2.out.okl (by decide) (by decide)
      have hBD := dbody_any _ _ _ (signsN ts) (zL ls) (zL ds) w9 HX9.1 HX9.2.1 HX9.2.2.1 HOKL.out.err HOKD.out.err (by have := HSL.out; omega) (fun s hs => by
        rw [zL_len, zL_len]
        exact ⟨(HK1.out.pos s.sym ⟨s, hs, rfl⟩).1, fun hr => (HK2.out.pos s.far ⟨s, hs, hr, rfl⟩).1⟩)
      rw [toN_zL, toN_zL] at hBD
      have HBPL : Hid ((bodyPs ls ds (signsN ts)).length ≤ 20000) := by
        have := bodyPs_len ls ds (signsN ts)
        have := HSL.out
        unfold Hid; omega
      have hs9 := HB9.out.size
      have hl12 : L1.length + (stpPs fs st).length ≤ 3000 := by have := HLQ.out; have := HSPL.out; omega
      have HF9 : Hid (L1.length + (stpPs fs st).length = L2.length) := HL2.out.symm
      generalize L1.length + (stpPs fs st).length = n2 at *
      clear hO9 hg9 hL2 HX9
      go_wp2_with fail
      refine hBD.mono ?_
      rintro e wv ⟨vv, rfl, hov, hbv⟩
      obtain ⟨va, vc, rfl⟩ := hov.shape
      have HBV : Hid (Below w6.heap.size w6 wv) := HB9.out.trans (hbv.mono hs9)
      have HUV : Hid (PO wv w9.heap.size (.slice va (bodyPs ls ds (signsN ts)).length vc) (bodyPs ls ds (signsN ts))) := hov
      have HOV : Hid (PO wv w6.heap.size (.slice a9 n2 c9) L2) := HO9.out.below hbv
      have HLEV : Hid (L2.length + (bodyPs ls ds (signsN ts)).length ≤ 1000000) := by have := HBPL.out; have := HF9.out; unfold Hid; omega
      have hsv := HBV.out.size
      have HOR9 : Hid (∀ r, (Value.slice a9 n2 c9).ownBlock = some r → w6.heap.size ≤ r) := fun r hr => (World.ownsRow.lt HO9.out r hr).1
      clear hov hbv hBD
      go_wp2_with (at_builtin; refine append_ps rfl _ _ rfl w6.heap.size w9.heap.size (.slice a9 n2 c9) (.slice va (bodyPs ls ds (signsN ts)).length vc) L2 (bodyPs ls ds (signsN ts)) rfl rfl HOV.out HUV.out HLEV.out hsv ?_; intro az cz wz hOz hgz)
      have HOZ : Hid (PO wz w.heap.size (.slice az (L2.length + (bodyPs ls ds (signsN ts)).length) cz) (dynP ls ds fs ts last)) := by unfold Hid; rw [HDY.out]; exact hOz.base (Nat.le_trans hs1 hs6)
      have HBZ : Hid (Below w.heap.size w wz) := HB1.out.trans ((HB6.out.trans ((HBV.out.grown hgz hsv (fun r hr => HOR9.out r hr)).mono hs6)).mono hs1)
      have HFKZ : Hid (LnOk fs 19 19 7 (fun i => ∃ s ∈ stpsF (zL (ls ++ ds)), s.sym.toNat = i)) := by unfold Hid; rw [HSTE.out]; exact HFK.out
      clear hOz hgz
      go_wp2
      go_ret
      exact ⟨_, ls, ds, fs, rfl, HOZ.out, HK1.out, HK2.out, HFKZ.out, HBZ.out⟩
end Go.Proofs.YtaldkmceenlomaaGreat
namespace Go.Proofs.YtaldkmceenlomaaGreat
open Go.RowKit
set_option linter.unusedVariables false
set_option linter.unusedSimpArgs false

theorem dynB_ok {ls ds fs : List Nat} {ts : List Tok} (hk : TkIn ts) (h1 : LnOk ls 257 286 15 (fun i => ∃ s ∈ signsN ts, s.sym = i)) (h2 : LnOk ds 1 30 15 (fun i => ∃ s ∈ signsN ts, s.rep = true ∧ s.far = i)) (h3 : LnOk fs 19 19 7 (fun i => ∃ s ∈ stpsF (zL (ls ++ ds)), s.sym.toNat = i)) : (dynB ls ds fs ts).Ok := by
  have hfl : fs.length = 19 := by have := h3.lo; have := h3.hi; omega
  have hend : sgEnd ∈ signsN ts := List.mem_append.2 (.inr (List.mem_singleton.2 rfl))
  have hE := h1.pos 256 ⟨sgEnd, hend, rfl⟩
  refine ⟨.inr ⟨rfl, ⟨h3.okl (by decide) (by decide), hfl, fun x hx => h3.le x hx, ?_, ?_, ?_, h1.lo, h1.hi, h2.lo, h2.hi, ?_⟩⟩, h1.okl (by decide) (by decide), h2.okl (by decide) (by decide), hE.1, hE.2, fun t ht => ?_⟩
  · show 4 ≤ (lnCut (tldL fs) 4).length
    rw [lnCut_len]; exact cutN_ge _ _ _ (by rw [tldL_len]; omega)
  · show (lnCut (tldL fs) 4).length ≤ 19
    have := cutN_le (zL (tldL fs)) 4 (tldL fs).length
    rw [lnCut_len]; rw [tldL_len] at this ⊢; exact this
  · intro j hj1 hj2
    have hj1' : (lnCut (tldL fs) 4).length ≤ j := hj1
    rw [lnCut_len] at hj1'
    have := lnCut_rest (tldL fs) 4 j hj1'
    unfold ln tldL at this
    rw [List.getD_eq_getElem?_getD, List.getElem?_map, List.getElem?_eq_getElem (show j < ordL.length from hj2)] at this
    have e : ordL.getD j 0 = ordL[j]'hj2 := by rw [List.getD_eq_getElem?_getD, List.getElem?_eq_getElem (show j < ordL.length from hj2)]; rfl
    rw [e]; exact this
  · intro s hs
    have hs' : s ∈ stpsF (zL (ls ++ ds)) := by
      rw [← stepsI_all]
      have hz : (zL (ls ++ ds)).length = (ls ++ ds).length := zL_len _
      rw [hz]; exact hs
    exact (h3.pos s.sym.toNat ⟨s, hs', rfl⟩).2
  · have hm : sgT t ∈ signsN ts := List.mem_append.2 (.inl (List.mem_map.2 ⟨t, ht, rfl⟩))
    have hp := h1.pos (symT t) ⟨sgT t, hm, sgT_sym t⟩
    refine ⟨(hk t ht).2, hp.1, hp.2, fun h0 => ?_⟩
    have hf := sgT_far h0
    exact h2.pos (farT t) ⟨sgT t, hm, hf.1, hf.2⟩
theorem dynP_ok {ls ds fs : List Nat} {ts : List Tok} (hk : TkIn ts) (last : Bool) (h1 : LnOk ls 257 286 15 (fun i => ∃ s ∈ signsN ts, s.sym = i)) (h2 : LnOk ds 1 30 15 (fun i => ∃ s ∈ signsN ts, s.rep = true ∧ s.far = i)) (h3 : LnOk fs 19 19 7 (fun i => ∃ s ∈ stpsF (zL (ls ++ ds)), s.sym.toNat = i)) : PsOk (dynP ls ds fs ts last) := by
  have ht19 : (lnCut (tldL fs) 4).length ≤ 19 := by
    have := cutN_le (zL (tldL fs)) 4 (tldL fs).length
    rw [lnCut_len]; rw [tldL_len] at this ⊢; exact this
  have hl2 := h1.hi
  have hd2 := h2.hi
  refine (((PsOk.app ?_ ?_).app (stpPs_ok (h3.okl (by decide) (by decide)) (stpsF_in (fun y hy => (List.mem_append.1 hy).elim (h1.le y) (h2.le y))))).app (bodyPs_ok (h1.okl (by decide) (by decide)) (h2.okl (by decide) (by decide)) hk))
  · refine (headP_ok last 2 (by decide)).app (fun p hp => ?_)
    simp only [List.mem_cons, List.not_mem_nil, or_false] at hp
    rcases hp with rfl | rfl | rfl
    · exact ⟨by show ls.length - 257 < _; omega, by show 5 ≤ 32; decide⟩
    · exact ⟨by show ds.length - 1 < _; omega, by show 5 ≤ 32; decide⟩
    · exact ⟨by show (lnCut (tldL fs) 4).length - 4 < _; omega, by show 4 ≤ 32; decide⟩
  · refine tolP_ok (fun y hy => ?_)
    obtain ⟨t, ht, rfl⟩ := List.mem_map.1 (List.mem_of_mem_take hy)
    by_cases htl : t < fs.length
    · exact h3.le _ (by rw [List.getD_eq_getElem?_getD, List.getElem?_eq_getElem htl]; exact List.getElem_mem htl)
    · rw [List.getD_eq_getElem?_getD, List.getElem?_eq_none (by omega)]; exact Nat.zero_le _
theorem dynP_len {ls ds fs : List Nat} {ts : List Tok} (last : Bool) (h1 : ls.length ≤ 286) (h2 : ds.length ≤ 30) (hl : ts.length ≤ 4000) : (dynP ls ds fs ts last).length ≤ 20000 := by
  have ht19 : (lnCut (tldL fs) 4).length ≤ 19 := by
    have := cutN_le (zL (tldL fs)) 4 (tldL fs).length
    rw [lnCut_len]; rw [tldL_len] at this ⊢; exact this
  have hb := bodyPs_len ls ds (signsN ts)
  rw [signsN_len] at hb
  have hs : (stpsF (zL (ls ++ ds))).length ≤ 316 := by
    obtain ⟨f1, f2, f3⟩ := stK_far (zL (ls ++ ds)) (zL (ls ++ ds)).length
    have h3 : (zL (ls ++ ds)).length = ls.length + ds.length := by rw [zL_len, List.length_append]
    unfold stpsF; omega
  unfold dynP dynHd headP tolP
  simp only [List.length_append, List.length_cons, List.length_nil, List.length_map, stpPs_len]
  omega
theorem fixedP_len (ts : List Tok) (last : Bool) (hl : ts.length ≤ 4000) : (fixedP ts last).length ≤ 20000 := by
  have hb := bodyPs_len fixL fixD (signsN ts)
  rw [signsN_len] at hb
  unfold fixedP headP
  simp only [List.length_append, List.length_cons, List.length_nil]
  omega
theorem bitsB_snoc (b : PBk) : ∀ bs : List PBk, bitsB (bs ++ [b]) = bs.flatMap (PBk.bits 0) ++ b.bits 1
  | [] => rfl
  | c :: bs => by
    have ih := bitsB_snoc b bs
    rw [List.flatMap_cons, List.append_assoc, ← ih]
    cases bs with
    | nil => rfl
    | cons d r => rfl
theorem Tryz.undTk : Tryz.prog.underlying 36 = some (.slice (Tryz.prog.elem 36)) := by kernel_rfl
theorem Tryz.szTk (W : World) : (sizeOf (Tryz.prog.elem 36)).run Tryz.prog W = .ok 3 W := by kernel_rfl
/-- v[:m] -/
theorem tro_hi {w : World} {a : Option Addr} {N cap : Nat} {ts : List Tok} (h : TRO w (.slice a N cap) ts) (m : Nat) (hm : m ≤ N) :
    (∀ W, (Instr.slice 36 (.slice a N cap) none (some (.int .i64 (m : Int))) none).run Tryz.prog W = .ok (.slice a m cap) W) ∧ TRO w (.slice a m cap) (ts.take m) := by
  obtain ⟨a', cap', e, hc, hz, hf⟩ := h
  injection e with e1 e2 e3
  subst e1 e3
  have hl : (ts.take m).length = m := by rw [List.length_take]; omega
  refine ⟨fun W => ?_, a, cap, by rw [hl], by omega, hz, fun hne => ?_⟩
  · rw [run_slice_h (ht := Tryz.undTk) (h0 := by omega) (h2 := by omega), Tryz.szTk]
    cases a with
    | none => simp [Result.andThen, sliced]
    | some y =>
      obtain ⟨b, o, s⟩ := y
      cases s <;> simp [Result.andThen, sliced, Addr.add]
  · obtain ⟨g, o, rfl, hg, hcl⟩ := hf (fun e => hne (by rw [e]; simp))
    refine ⟨g, o, rfl, hg, fun i t ht => hcl i t ?_⟩
    rw [List.getElem?_take] at ht
    split at ht
    · exact ht
    · cases ht
/-- v[m:] -/
theorem tro_lo {w : World} {a : Option Addr} {N cap : Nat} {ts : List Tok} (h : TRO w (.slice a N cap) ts) (m : Nat) (hm : m ≤ N) :
    ∃ a2, (∀ W, (Instr.slice 36 (.slice a N cap) (some (.int .i64 (m : Int))) none none).run Tryz.prog W = .ok (.slice a2 (N - m) (cap - m)) W) ∧ TRO w (.slice a2 (N - m) (cap - m)) (ts.drop m) := by
  obtain ⟨a', cap', e, hc, hz, hf⟩ := h
  injection e with e1 e2 e3
  subst e1 e3
  refine ⟨if cap = m then a else a.map (·.add (m * 3)), fun W => ?_, _, _, by rw [List.length_drop, e2], by rw [List.length_drop]; omega, fun hn => ?_, fun hne => ?_⟩
  · rw [run_slice_l (ht := Tryz.undTk) (h0 := by omega) (h1 := by omega), Tryz.szTk]
    simp [Result.andThen, sliced]
  · split at hn
    · omega
    · cases a with
      | none => have := hz rfl; omega
      | some x => cases hn
  · have hlt : m < ts.length := by
      rcases Nat.lt_or_ge m ts.length with h | h
      · exact h
      · exact absurd (List.drop_eq_nil_of_le h) hne
    obtain ⟨g, o, rfl, hg, hcl⟩ := hf (fun e => by rw [e] at hlt; simp at hlt)
    refine ⟨g, o + m * 3, ?_, hg, fun i t ht => ?_⟩
    · rw [if_neg (by omega), Option.map_some, Addr.add_mid]
    · rw [List.getElem?_drop] at ht
      have := hcl _ t ht
      rw [show o + m * 3 + i * 3 = o + (m + i) * 3 by omega]
      exact this
end Go.Proofs.YtaldkmceenlomaaGreat
namespace Go.Proofs.YtaldkmceenlomaaGreat
open Go.RowKit
set_option linter.unusedVariables false
set_option linter.unusedSimpArgs false

/-- No longer than by the fixed codes. -/
def Short (b : PBk) : Prop := ∀ la : Nat, (b.bits la).length ≤ ((fixB b.ts).bits la).length
theorem bits_last (b : PBk) (x y : Nat) : (b.bits x).length = (b.bits y).length := by
  unfold PBk.bits; simp only [List.length_append, lowB_len]
/-- The blocks so far: all but the last. -/
structure Packed (ts : List Tok) (k : Nat) (bs : List PBk) : Prop where
  ok : ∀ b ∈ bs, b.Ok ∧ Short b
  ts : bs.flatMap PBk.ts = ts.take k
  few : bs.length * 4000 ≤ k
  len : (bs.flatMap (PBk.bits 0)).length ≤ 1000000 * bs.length
theorem Packed.nil (ts : List Tok) : Packed ts 0 [] := ⟨fun b hb => (by cases hb), rfl, (by rw [List.length_nil, Nat.zero_mul]; exact Nat.le_refl _), Nat.zero_le _⟩
/-- A slice's length. -/
def slnOf : Value → Nat | .slice _ n _ => n | _ => 0
set_option maxRecDepth 100000 in
theorem Packed.snoc {ts : List Tok} {k m : Nat} {bs : List PBk} {b : PBk} (h : Packed ts k bs) (hb : b.Ok) (hs : Short b) (ht : b.ts = (ts.drop k).take m) (hm : m = 4000) (hl : (b.bits 0).length ≤ 1000000) : Packed ts (k + m) (bs ++ [b]) := by
  refine ⟨fun c hc => ?_, ?_, ?_, ?_⟩
  · rcases List.mem_append.1 hc with h1 | h1
    · exact h.ok c h1
    · rw [List.mem_singleton.1 h1]; exact ⟨hb, hs⟩
  · rw [List.flatMap_append, h.ts, List.take_add]
    simp [ht]
  · have := h.few
    rw [List.length_append, List.length_cons, List.length_nil]; omega
  · have := h.len
    rw [List.flatMap_append, List.length_append, List.length_append, List.length_cons, List.length_nil]
    simp only [List.flatMap_cons, List.flatMap_nil, List.append_nil]; omega
theorem min_run (x y : Int) (W : World) : (Builtin.min_ #[3, 3] 3 #[.int .i64 x, .int .i64 y]).run Tryz.prog W = .ok (.int .i64 (min x y)) W := by
  have h : ∀ (x y : Int) (W : World), (Builtin.min2 (.int .i64 x) (.int .i64 y)).run Tryz.prog W = .ok (.int .i64 (min x y)) W := fun x y W => by
    unfold Builtin.min2
    simp [go_sem]
    split <;> congr 2 <;> omega
  unfold Builtin.min_
  simp only [List.foldlM, Sem.run_bind, h, Result.andThen_ok, Sem.run_pure]
set_option maxRecDepth 100000 in
set_option maxHeartbeats 4000000 in
theorem pack_any (v : Value) (ts : List Tok) (w : World) (hT : TRO w v ts) (hk : TkIn ts) (hl : ts.length ≤ 70000) :
    Calls Tryz.prog 14 #[v] w fun e w' => ∃ bs : List PBk, e = .returned (.string (packS (bitsB bs))) ∧ bs ≠ [] ∧ (∀ b ∈ bs, b.Ok ∧ Short b) ∧ bs.flatMap PBk.ts = ts ∧ (bitsB bs).length ≤ 100000000 ∧ (bs.length - 1) * 4000 ≤ ts.length ∧ Below w.heap.size w w' := by
  have HT0 : Hid (TRO w v ts) := hT
  have HK : Hid (TkIn ts) := hk
  obtain ⟨a0, cap0, rfl, -, -, -⟩ := hT
  obtain ⟨N, hN⟩ : ∃ N, N = ts.length := ⟨_, rfl⟩
  have HN : Hid (N = ts.length) := hN
  rw [← hN] at HT0 hl ⊢
  clear hN hk
  have hzS := (zero_of_info Tryz.zeroSnk).1
  have hS0 := sink_zero w
  have HS0 : Hid (SinkAt (w.alloc (.cells snk0 67)) w.heap.size []) := hS0
  have HB0 : Hid (Below w.heap.size w (w.alloc (.cells snk0 67))) := (Below.refl _ w).alloc (Nat.le_refl _) _
  clear hS0
  go_enter Tryz.func14, Tryz.ntmps14
  go_wp2
  generalize w.alloc (.cells snk0 67) = W0 at *
  go_loopw [0] (fun t wr => ∃ (k : Nat) (ta : Option Addr) (tc : Nat) (bs : List PBk), k ≤ N ∧ (k < N ∨ k = 0) ∧ t = .slice ta (N - k) tc ∧ Hid (TRO w (.slice ta (N - k) tc) (ts.drop k)) ∧ Hid (Packed ts k bs) ∧ SinkAt wr w.heap.size (bs.flatMap (PBk.bits 0)) ∧ Below w.heap.size w wr) (fun t _ => slnOf t)
  case atStart => exact ⟨0, a0, cap0, [], Nat.zero_le _, .inr rfl, rfl, by unfold Hid; rw [List.drop_zero, Nat.sub_zero]; exact HT0.out, Packed.nil ts, HS0.out, HB0.out⟩
  case round =>
    clear HS0 HB0 hzS
    obtain ⟨k, ta, tc, bs, hkN, hk0, rfl, HT, HP, hS, hb⟩ := hrel
    have HS : Hid (SinkAt wr w.heap.size (bs.flatMap (PBk.bits 0))) := hS
    have HB : Hid (Below w.heap.size w wr) := hb
    have hgl := hS.lt
    have hsr := hb.size
    obtain ⟨R, hR⟩ : ∃ R, R = N - k := ⟨_, rfl⟩
    obtain ⟨m, hm⟩ : ∃ m, m = min R 4000 := ⟨_, rfl⟩
    rw [← hR] at HT ⊢
    have hmR : m ≤ R := by omega
    have hm4 : m ≤ 4000 := by omega
    obtain ⟨hr1, hT1⟩ := tro_hi HT.out m hmR
    obtain ⟨a2, hr2, hT2⟩ := tro_lo HT.out m hmR
    have HT1 : Hid (TRO w (.slice ta m tc) ((ts.drop k).take m)) := hT1
    have HT2 : Hid (TRO w (.slice a2 (R - m) (tc - m)) ((ts.drop k).drop m)) := hT2
    obtain ⟨t1, ht1⟩ : ∃ t1, t1 = (ts.drop k).take m := ⟨_, rfl⟩
    have HT1E : Hid ((ts.drop k).take m = t1) := ht1.symm
    rw [← ht1] at HT1
    have hk1 : TkIn t1 := fun t ht => HK.out t (by rw [ht1] at ht; exact List.mem_of_mem_drop (List.mem_of_mem_take ht))
    have hl1 : t1.length ≤ 4000 := by rw [ht1, List.length_take]; omega
    have HK1 : Hid (TkIn t1) := hk1
    have HL1 : Hid (t1.length ≤ 4000) := hl1
    have HSO := signsOf_any (.slice ta m tc) t1 wr (HT1.out.below HB.out) hk1 (by omega)
    have HRR : Hid (R = N - k) := hR
    have HMM : Hid (m = min R 4000) := hm
    clear hS hb ht1 hT1 hT2 hk1 hl1 hR hm
    have hmn : ∀ W, (Builtin.min_ #[3, 3] 3 #[.int .i64 (R : Int), .int .i64 4000]).run Tryz.prog W = .ok (.int .i64 (m : Int)) W := fun W => by
      rw [min_run]; congr 2; have := HMM.out; omega
    go_wp2_with fail
    refine HSO.mono ?_
    rintro e w1 ⟨vs, rfl, hsg, hb1⟩
    obtain ⟨sa, sc, rfl, -, -⟩ := id hsg
    have HSG1 : Hid (SgS w1 (.slice sa (signsN t1).length sc) (signsN t1)) := hsg
    have HB1 : Hid (Below w.heap.size w w1) := HB.out.trans (hb1.mono hsr)
    have HS1 : Hid (SinkAt w1 w.heap.size (bs.flatMap (PBk.bits 0))) := HS.out.below hb1
    have HS1L : Hid (w.heap.size < w1.heap.size) := HS1.out.lt
    have hs1 := HB1.out.size
    obtain ⟨lb, hlb⟩ : ∃ lb : Bool, (((R - m : Nat) : Int) == 0) = lb := ⟨_, rfl⟩
    have HLB : Hid (lb = decide (R - m = 0)) := by
      unfold Hid; rw [← hlb]
      by_cases h : R - m = 0
      · rw [h]; rfl
      · rw [decide_eq_false h, beq_eq_false_iff_ne]; omega
    have HFX := fixedBlock_any _ t1 lb w1 hsg HK1.out HL1.out
    clear hsg hb1 HSO hmn
    go_wp2_with fail
    refine HFX.mono ?_
    rintro e w2 ⟨vf, rfl, hof, hb2⟩
    obtain ⟨fa, fc, rfl⟩ := hof.shape
    have HB2 : Hid (Below w.heap.size w w2) := HB1.out.trans (hb2.mono hs1)
    have HS2 : Hid (SinkAt w2 w.heap.size (bs.flatMap (PBk.bits 0))) := HS1.out.below hb2
    have HO2 : Hid (PO w2 w1.heap.size (.slice fa (fixedP t1 lb).length fc) (fixedP t1 lb)) := hof
    have HS2L : Hid (w.heap.size < w2.heap.size) := HS2.out.lt
    have HDB := dynamicBlock_any _ t1 lb w2 (HSG1.out.below hb2) HK1.out HL1.out
    have hs2 := HB2.out.size
    clear hof hb2 HFX
    go_wp2_with fail
    refine HDB.mono ?_
    rintro e w3 ⟨vd, ls, ds, fs, rfl, hod, hk1, hk2, hk3, hb3⟩
    obtain ⟨da, dc, rfl⟩ := hod.shape
    have HB3 : Hid (Below w.heap.size w w3) := HB2.out.trans (hb3.mono hs2)
    have HS3 : Hid (SinkAt w3 w.heap.size (bs.flatMap (PBk.bits 0))) := HS2.out.below hb3
    have HO23 : Hid (PO w3 w1.heap.size (.slice fa (fixedP t1 lb).length fc) (fixedP t1 lb)) := HO2.out.below hb3
    have HOD : Hid (PO w3 w2.heap.size (.slice da (dynP ls ds fs t1 lb).length dc) (dynP ls ds fs t1 lb)) := hod
    have HDK : Hid ((dynB ls ds fs t1).Ok) := dynB_ok HK1.out hk1 hk2 hk3
    have HDOK : Hid (PsOk (dynP ls ds fs t1 lb)) := dynP_ok HK1.out lb hk1 hk2 hk3
    have HFOK : Hid (PsOk (fixedP t1 lb)) := fixedP_ok HK1.out lb
    have HDL : Hid ((dynP ls ds fs t1 lb).length ≤ 20000) := dynP_len lb hk1.hi hk2.hi HL1.out
    have HFL : Hid ((fixedP t1 lb).length ≤ 20000) := fixedP_len t1 lb HL1.out
    have HC1 := countOf_any _ (dynP ls ds fs t1 lb) w3 hod.ps (by have := HDL.out; omega) HDOK.out
    have HDBT : Hid (prsB (dynP ls ds fs t1 lb) = (dynB ls ds fs t1).bits (flagN lb)) := dynP_bits ls ds fs t1 lb
    have HFBT : Hid (prsB (fixedP t1 lb) = (fixB t1).bits (flagN lb)) := fixP_bits t1 lb
    have hs3 := HB3.out.size
    clear hod hk1 hk2 hk3 hb3 HDB HO2 HS1 HS2
    go_wp2_with fail
    refine HC1.mono ?_
    rintro e w4 ⟨rfl, hb4⟩
    have HB4 : Hid (Below w.heap.size w w4) := HB3.out.trans (hb4.mono hs3)
    have HS4 : Hid (SinkAt w4 w.heap.size (bs.flatMap (PBk.bits 0))) := HS3.out.below hb4
    have HO4 : Hid (PO w4 w1.heap.size (.slice fa (fixedP t1 lb).length fc) (fixedP t1 lb)) := HO23.out.below hb4
    have HOD4 : Hid (PO w4 w2.heap.size (.slice da (dynP ls ds fs t1 lb).length dc) (dynP ls ds fs t1 lb)) := HOD.out.below hb4
    have HC2 := countOf_any _ (fixedP t1 lb) w4 HO4.out.ps (by have := HFL.out; omega) HFOK.out
    have hs4 := HB4.out.size
    clear hb4 HC1
    go_wp2_with fail
    refine HC2.mono ?_
    rintro e w5 ⟨rfl, hb5⟩
    have HB5 : Hid (Below w.heap.size w w5) := HB4.out.trans (hb5.mono hs4)
    have HS5 : Hid (SinkAt w5 w.heap.size (bs.flatMap (PBk.bits 0))) := HS4.out.below hb5
    have HO5 : Hid (PO w5 w1.heap.size (.slice fa (fixedP t1 lb).length fc) (fixedP t1 lb)) := HO4.out.below hb5
    have HOD5 : Hid (PO w5 w2.heap.size (.slice da (dynP ls ds fs t1 lb).length dc) (dynP ls ds fs t1 lb)) := HOD4.out.below hb5
    have hg1 : w.heap.size < w1.heap.size := HS1L.out
    have hg2 : w.heap.size < w2.heap.size := HS2L.out
    have hs5 := HB5.out.size
    clear hb5 HC2 HO4 HOD4 HS4 HS3 HO23 HOD
    have HSHF : Hid (Short (fixB t1)) := fun la => Nat.le_refl _
    by_cases hlt2 : (prsB (dynP ls ds fs t1 lb)).length < (prsB (fixedP t1 lb)).length
    · have hlti : ((prsB (dynP ls ds fs t1 lb)).length : Int) < ((prsB (fixedP t1 lb)).length : Int) := by omega
      obtain ⟨b, hb⟩ : ∃ b, b = dynB ls ds fs t1 := ⟨_, rfl⟩
      have HSHD : Hid (Short (dynB ls ds fs t1)) := fun la => by
        have h := hlt2
        rw [HDBT.out, HFBT.out] at h
        rw [bits_last (dynB ls ds fs t1) la (flagN lb), bits_last (fixB (dynB ls ds fs t1).ts) la (flagN lb)]
        exact Nat.le_of_lt h
      have HBO : Hid (b.Ok ∧ Short b) := by rw [hb]; exact ⟨HDK.out, HSHD.out⟩
      have HBT : Hid (b.ts = t1) := by rw [hb]; rfl
      have HBB : Hid (prsB (dynP ls ds fs t1 lb) = b.bits (flagN lb)) := by rw [hb]; exact HDBT.out
      have HBL : Hid ((b.bits 0).length ≤ 1000000) := by
        have h1 := prsB_le (dynP ls ds fs t1 lb) HDOK.out
        rw [HBB.out] at h1
        rw [bits_last b 0 (flagN lb)]
        have := HDL.out; unfold Hid; omega
      clear hb hlt2
      generalize dynP ls ds fs t1 lb = LD at *
      generalize fixedP t1 lb = LF at *
      have hne : (Value.slice da LD.length dc).ownBlock ≠ some w.heap.size := fun e => by have := (World.ownsRow.lt HOD5.out _ e).1; omega
      have HPU := dput_any w.heap.size (bs.flatMap (PBk.bits 0)) _ (LD) w5 HS5.out HOD5.out.ps hne (by have := HDL.out; omega) HDOK.out (by have := HP.out.len; have := HP.out.few; omega)
      rw [HBB.out] at HPU
      clear hne
      go_wp2_with fail
      refine HPU.mono ?_
      rintro e w6 ⟨rfl, hS6, hg6⟩
      have HS6 : Hid (SinkAt w6 w.heap.size (bs.flatMap (PBk.bits 0) ++ b.bits (flagN lb))) := hS6
      have HB6 : Hid (Below w.heap.size w w6) := HB5.out.grown hg6 hs5 (fun j hj => by cases hj; exact Nat.le_refl _)
      clear hS6 hg6 HPU
      cases lb with
      | true =>
        have hRm : R - m = 0 := by have := HLB.out; simpa using this.symm
        have HT1T : Hid (t1 = ts.drop k) := by
          unfold Hid
          rw [← HT1E.out, List.take_of_length_le]
          rw [List.length_drop, ← HN.out]; have := HRR.out; omega
        have HBSE : Hid (bitsB (bs ++ [b]) = bs.flatMap (PBk.bits 0) ++ b.bits 1) := bitsB_snoc b bs
        have HAL := all_any w.heap.size (bs.flatMap (PBk.bits 0) ++ b.bits 1) w6 HS6.out (by rw [List.length_append]; have := HP.out.len; have := HP.out.few; have := HBL.out; rw [bits_last b 1 0]; omega)
        rw [← HBSE.out] at HAL
        have HRES : Hid (bs ++ [b] ≠ [] ∧ (∀ c ∈ bs ++ [b], c.Ok ∧ Short c) ∧ (bs ++ [b]).flatMap PBk.ts = ts ∧ (bitsB (bs ++ [b])).length ≤ 100000000 ∧ ((bs ++ [b]).length - 1) * 4000 ≤ ts.length) := by
          refine ⟨by simp, fun c hc => ?_, ?_, ?_, ?_⟩
          · rcases List.mem_append.1 hc with h1 | h1
            · exact HP.out.ok c h1
            · rw [List.mem_singleton.1 h1]; exact HBO.out
          · rw [List.flatMap_append, HP.out.ts]
            simp only [List.flatMap_cons, List.flatMap_nil, List.append_nil]
            rw [HBT.out, HT1T.out, List.take_append_drop]
          · rw [HBSE.out, List.length_append, bits_last b 1 0]
            have := HP.out.len; have := HP.out.few; have := HBL.out; omega
          · have h1 := HP.out.few
            have h2 := HN.out
            rw [List.length_append, show bs.length + [b].length - 1 = bs.length from rfl]
            omega
        clear hRm
        go_wp2_with fail
        refine HAL.mono ?_
        rintro e w7 ⟨rfl, hb7⟩
        have HB7 : Hid (Below w.heap.size w w7) := HB6.out.trans (hb7.mono HB6.out.size)
        clear hb7 HAL
        go_wp2
        go_ret
        exact ⟨bs ++ [b], rfl, HRES.out.1, HRES.out.2.1, HRES.out.2.2.1, HRES.out.2.2.2.1, by rw [HN.out]; exact HRES.out.2.2.2.2, HB7.out⟩
      | false =>
        have hRm : ¬ R - m = 0 := by have := HLB.out; simpa using this.symm
        have hm4k : m = 4000 := by have := HMM.out; omega
        have HPK : Hid (Packed ts (k + m) (bs ++ [b])) := HP.out.snoc HBO.out.1 HBO.out.2 (by rw [HBT.out, HT1E.out]) hm4k HBL.out
        have HSK : Hid (SinkAt w6 w.heap.size ((bs ++ [b]).flatMap (PBk.bits 0))) := by
          unfold Hid
          rw [List.flatMap_append]
          simp only [List.flatMap_cons, List.flatMap_nil, List.append_nil]
          exact HS6.out
        have HTK : Hid (TRO w (.slice a2 (R - m) (tc - m)) (ts.drop (k + m))) := by unfold Hid; rw [← List.drop_drop]; exact HT2.out
        have HNK : Hid (N - (k + m) = R - m) := by have := HRR.out; unfold Hid; omega
        have hkm : k + m < N := by have := HRR.out; omega
        have hlt : R - m < R := by omega
        clear hm4k
        go_wp2
        go_roundw
        case rel => exact ⟨k + m, a2, tc - m, bs ++ [b], by omega, .inl hkm, by rw [HNK.out], by unfold Hid; rw [HNK.out]; exact HTK.out, HPK.out, HSK.out, HB6.out⟩
        case measure => simp only [slnOf]; exact hlt
    · have hlti : ¬ ((prsB (dynP ls ds fs t1 lb)).length : Int) < ((prsB (fixedP t1 lb)).length : Int) := by omega
      obtain ⟨b, hb⟩ : ∃ b, b = fixB t1 := ⟨_, rfl⟩
      have HBO : Hid (b.Ok ∧ Short b) := by rw [hb]; exact ⟨fixB_ok HK1.out, HSHF.out⟩
      have HBT : Hid (b.ts = t1) := by rw [hb]; rfl
      have HBB : Hid (prsB (fixedP t1 lb) = b.bits (flagN lb)) := by rw [hb]; exact HFBT.out
      have HBL : Hid ((b.bits 0).length ≤ 1000000) := by
        have h1 := prsB_le (fixedP t1 lb) HFOK.out
        rw [HBB.out] at h1
        rw [bits_last b 0 (flagN lb)]
        have := HFL.out; unfold Hid; omega
      clear hb hlt2
      generalize dynP ls ds fs t1 lb = LD at *
      generalize fixedP t1 lb = LF at *
      have hne : (Value.slice fa LF.length fc).ownBlock ≠ some w.heap.size := fun e => by have := (World.ownsRow.lt HO5.out _ e).1; omega
      have HPU := dput_any w.heap.size (bs.flatMap (PBk.bits 0)) _ (LF) w5 HS5.out HO5.out.ps hne (by have := HFL.out; omega) HFOK.out (by have := HP.out.len; have := HP.out.few; omega)
      rw [HBB.out] at HPU
      clear hne
      go_wp2_with fail
      refine HPU.mono ?_
      rintro e w6 ⟨rfl, hS6, hg6⟩
      have HS6 : Hid (SinkAt w6 w.heap.size (bs.flatMap (PBk.bits 0) ++ b.bits (flagN lb))) := hS6
      have HB6 : Hid (Below w.heap.size w w6) := HB5.out.grown hg6 hs5 (fun j hj => by cases hj; exact Nat.le_refl _)
      clear hS6 hg6 HPU
      cases lb with
      | true =>
        have hRm : R - m = 0 := by have := HLB.out; simpa using this.symm
        have HT1T : Hid (t1 = ts.drop k) := by
          unfold Hid
          rw [← HT1E.out, List.take_of_length_le]
          rw [List.length_drop, ← HN.out]; have := HRR.out; omega
        have HBSE : Hid (bitsB (bs ++ [b]) = bs.flatMap (PBk.bits 0) ++ b.bits 1) := bitsB_snoc b bs
        have HAL := all_any w.heap.size (bs.flatMap (PBk.bits 0) ++ b.bits 1) w6 HS6.out (by rw [List.length_append]; have := HP.out.len; have := HP.out.few; have := HBL.out; rw [bits_last b 1 0]; omega)
        rw [← HBSE.out] at HAL
        have HRES : Hid (bs ++ [b] ≠ [] ∧ (∀ c ∈ bs ++ [b], c.Ok ∧ Short c) ∧ (bs ++ [b]).flatMap PBk.ts = ts ∧ (bitsB (bs ++ [b])).length ≤ 100000000 ∧ ((bs ++ [b]).length - 1) * 4000 ≤ ts.length) := by
          refine ⟨by simp, fun c hc => ?_, ?_, ?_, ?_⟩
          · rcases List.mem_append.1 hc with h1 | h1
            · exact HP.out.ok c h1
            · rw [List.mem_singleton.1 h1]; exact HBO.out
          · rw [List.flatMap_append, HP.out.ts]
            simp only [List.flatMap_cons, List.flatMap_nil, List.append_nil]
            rw [HBT.out, HT1T.out, List.take_append_drop]
          · rw [HBSE.out, List.length_append, bits_last b 1 0]
            have := HP.out.len; have := HP.out.few; have := HBL.out; omega
          · have h1 := HP.out.few
            have h2 := HN.out
            rw [List.length_append, show bs.length + [b].length - 1 = bs.length from rfl]
            omega
        clear hRm
        go_wp2_with fail
        refine HAL.mono ?_
        rintro e w7 ⟨rfl, hb7⟩
        have HB7 : Hid (Below w.heap.size w w7) := HB6.out.trans (hb7.mono HB6.out.size)
        clear hb7 HAL
        go_wp2
        go_ret
        exact ⟨bs ++ [b], rfl, HRES.out.1, HRES.out.2.1, HRES.out.2.2.1, HRES.out.2.2.2.1, by rw [HN.out]; exact HRES.out.2.2.2.2, HB7.out⟩
      | false =>
        have hRm : ¬ R - m = 0 := by have := HLB.out; simpa using this.symm
        have hm4k : m = 4000 := by have := HMM.out; omega
        have HPK : Hid (Packed ts (k + m) (bs ++ [b])) := HP.out.snoc HBO.out.1 HBO.out.2 (by rw [HBT.out, HT1E.out]) hm4k HBL.out
        have HSK : Hid (SinkAt w6 w.heap.size ((bs ++ [b]).flatMap (PBk.bits 0))) := by
          unfold Hid
          rw [List.flatMap_append]
          simp only [List.flatMap_cons, List.flatMap_nil, List.append_nil]
          exact HS6.out
        have HTK : Hid (TRO w (.slice a2 (R - m) (tc - m)) (ts.drop (k + m))) := by unfold Hid; rw [← List.drop_drop]; exact HT2.out
        have HNK : Hid (N - (k + m) = R - m) := by have := HRR.out; unfold Hid; omega
        have hkm : k + m < N := by have := HRR.out; omega
        have hlt : R - m < R := by omega
        clear hm4k
        go_wp2
        go_roundw
        case rel => exact ⟨k + m, a2, tc - m, bs ++ [b], by omega, .inl hkm, by rw [HNK.out], by unfold Hid; rw [HNK.out]; exact HTK.out, HPK.out, HSK.out, HB6.out⟩
        case measure => simp only [slnOf]; exact hlt
end Go.Proofs.YtaldkmceenlomaaGreat
