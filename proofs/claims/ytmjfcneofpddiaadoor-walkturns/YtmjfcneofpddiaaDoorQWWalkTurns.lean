/- The walk of WalkTurns. -/
import Derived.Test.YtmjfcneofpddiaaDoorQWtD
import Derived.Test.YtmjfcneofpddiaaDoorQOpsI
import Derived.Test.YtmjfcneofpddiaaDoorQKeep
import Derived.Deep.RegionHeld3
namespace Go.Proofs.YtmjfcneofpddiaaDoor
open Go.RowKit Go.Maps
set_option linter.unusedVariables false
set_option linter.unusedSimpArgs false

theorem rev_take {l : List It} {k : Nat} {x : It} (h : l[k]? = some x) : (l.take (k + 1)).reverse = [x] ++ (l.take k).reverse := by
  rw [List.take_add_one, h]; simp
theorem chk_both0 {l m : List It} {z y : Int} (hp : m.Perm l) (hz : ChkP l z) (hy : ChkP m y) : (z == 0) = (y == 0) := by
  have h1 := chk_tree hz
  have h2 := chk_tree hy
  by_cases h : IsTree l
  · rw [h1.2 h, h2.2 (h.perm hp.symm)]
  · have a1 : z ≠ 0 := fun e => h (h1.1 e)
    have a2 : y ≠ 0 := fun e => h ((h2.1 e).perm hp)
    rw [beq_eq_false_iff_ne.2 a1, beq_eq_false_iff_ne.2 a2]
set_option maxRecDepth 100000 in
set_option maxHeartbeats 8000000 in
theorem lawWalkTurns_walk (a0 : Option Addr) (len0 cap0 : Nat) (z0 : List It) (a1 : Option Addr) (len1 cap1 : Nat) (z1 : List It) (w : World) (b0 : IsIts w a0 len0 cap0 z0) (b1 : IsIts w a1 len1 cap1 z1) (hL : Lay11 w) :
    Calls Tryd.prog 3 #[.slice a0 len0 cap0, .slice a1 len1 cap1] w fun e w' => e = .returned (.bool true) ∧ Below w.heap.size w w' := by
  obtain ⟨hlen, hl63, hok, hiv⟩ := b0
  obtain ⟨hlen1, hl631, hok1, hiv1⟩ := b1
  obtain ⟨l, hl⟩ : ∃ l, l = z0.take 100 := ⟨_, rfl⟩
  obtain ⟨m, hm⟩ : ∃ m, m = z1.take 100 := ⟨_, rfl⟩
  have HOK : Hid (ItB l) := fun x hx => (hok x (List.mem_of_mem_take (by rw [← hl]; exact hx))).2.2.2
  have HOM : Hid (ItB m) := fun x hx => (hok1 x (List.mem_of_mem_take (by rw [← hm]; exact hx))).2.2.2
  have hl100 : l.length ≤ 100 := by rw [hl, List.length_take]; omega
  have hm100 : m.length ≤ 100 := by rw [hm, List.length_take]; omega
  have HF : Hid (Calls Tryd.prog _ _ _ _) := few13_any a0 len0 cap0 z0 100 w hiv hlen (by decide) hl63
  have HF2 : Hid (∀ W, Below w.heap.size w W → Calls Tryd.prog 6 #[.slice a1 len1 cap1, .int .i64 ((100 : Nat) : Int)] W fun e w' => ∃ a' c', e = .returned (.slice a' (z1.take 100).length c') ∧ IO w' W.heap.size (.slice a' (z1.take 100).length c') (z1.take 100) ∧ Below W.heap.size W w') := fun W hW => few13_any a1 len1 cap1 z1 100 W (hiv1.below hW) hlen1 (by decide) hl631
  rw [← hl] at HF
  rw [← hm] at HF2
  have HLy : Hid (Lay11 w) := hL
  clear hok hiv hlen hl63 hl hL hok1 hiv1 hlen1 hl631 hm
  go_enter Tryd.func3, Tryd.ntmps3
  go_wp2_with fail
  refine HF.out.mono ?_
  rintro e w1 ⟨fa, fc, rfl, hfo, hfb⟩
  have HB1 : Hid (Below w.heap.size w w1) := hfb
  have HV1 : Hid (IV w1 (.slice fa l.length fc) l) := hfo.iv
  have HF3 : Hid (Calls Tryd.prog 6 #[.slice a1 len1 cap1, .int .i64 100] w1 _) := HF2.out w1 hfb
  clear hfo hfb HF HF2
  obtain ⟨n, hn⟩ : ∃ n, n = l.length := ⟨_, rfl⟩
  have HN : Hid (n = l.length) := hn
  rw [← hn] at hl100 HV1
  rw [← hn]
  clear hn
  go_wp2_with fail
  refine HF3.out.mono ?_
  rintro e w2 ⟨ga, gc, rfl, hgo, hgb⟩
  have HB2 : Hid (Below w.heap.size w w2) := HB1.out.trans (hgb.mono HB1.out.size)
  have HVL2 : Hid (IV w2 (.slice fa n fc) l) := HV1.out.below hgb
  have HVM2 : Hid (IV w2 (.slice ga m.length gc) m) := hgo.iv
  clear hgo hgb HF3 HV1 HB1
  obtain ⟨k2, hk2⟩ : ∃ k2, k2 = m.length := ⟨_, rfl⟩
  have HM : Hid (k2 = m.length) := hk2
  rw [← hk2] at hm100 HVM2
  rw [← hk2]
  clear hk2
  have HR0 : Hid (IO (w2.alloc (.cells #[] 25)) w2.heap.size (.slice (some ⟨w2.heap.size, 0, none⟩) 0 0) []) := IO.nilZ w2
  have HRB : Hid (Below w2.heap.size w2 (w2.alloc (.cells #[] 25))) := (Below.refl _ _).alloc (Nat.le_refl _) _
  go_wp2
  go_loopw [7, 28] (fun s i wr => ∃ (k : Nat) (ua : Option Addr) (uc : Nat), k ≤ n ∧ i = .int .i64 (k : Int) ∧ s = .slice ua (l.take k).reverse.length uc ∧ IO wr w2.heap.size (.slice ua (l.take k).reverse.length uc) (l.take k).reverse ∧ Below w2.heap.size w2 wr) (fun _ i _ => n - (intOf i).toNat)
  case atStart => exact ⟨0, some ⟨w2.heap.size, 0, none⟩, 0, Nat.zero_le _, rfl, rfl, HR0.out, HRB.out⟩
  case round =>
    obtain ⟨k, ua, uc, hk, rfl, rfl, hO, hb⟩ := hrel
    have HO : Hid (IO wr w2.heap.size (.slice ua (l.take k).reverse.length uc) (l.take k).reverse) := hO
    have HB : Hid (Below w2.heap.size w2 wr) := hb
    have hrl : (l.take k).reverse.length ≤ k := by rw [List.length_reverse, List.length_take]; omega
    clear hO hb HR0 HRB
    by_cases hlt : k < n
    · obtain ⟨x, hx⟩ : ∃ x, l[k]? = some x := ⟨_, List.getElem?_eq_getElem (by rw [← HN.out]; exact hlt)⟩
      have hlti : (k : Int) < (n : Int) := by omega
      obtain ⟨g, o, rfl, hg, -, hcap, c0, c1, c2, c3, c4⟩ := (HVL2.out.below HB.out).at hx
      obtain ⟨F2, hF2⟩ : ∃ F2, F2 = (l.take (k + 1)).reverse := ⟨_, rfl⟩
      have HF2 : Hid (F2 = (l.take (k + 1)).reverse) := hF2
      have HT1 : Hid (F2 = [x] ++ (l.take k).reverse) := by unfold Hid; rw [hF2]; exact rev_take hx
      clear hF2
      generalize (l.take k).reverse = F at *
      have hzo := zeroIt
      obtain ⟨W2, hW2⟩ : ∃ W2, W2 = wr.alloc (.cells #[.string (mkB x.p), .int .i64 x.k, .int .i64 x.m, .int .i64 x.t, .string (mkB x.d)] 25) := ⟨_, rfl⟩
      have hb2 : Below wr.heap.size wr W2 := by rw [hW2]; exact (Below.refl _ _).alloc (Nat.le_refl _) _
      have hh2 : W2.heap[wr.heap.size]? = some (.cells #[.string (mkB x.p), .int .i64 x.k, .int .i64 x.m, .int .i64 x.t, .string (mkB x.d)] 25 (0, 0)) := by rw [hW2]; exact heap_alloc_new wr _
      have HH2 : Hid (W2.heap[wr.heap.size]? = some (.cells #[.string (mkB x.p), .int .i64 x.k, .int .i64 x.m, .int .i64 x.t, .string (mkB x.d)] 25 (0, 0))) := hh2
      have HW2 : Hid (wr.alloc (.cells #[.string (mkB x.p), .int .i64 x.k, .int .i64 x.m, .int .i64 x.t, .string (mkB x.d)] 25) = W2) := hW2.symm
      have HB2' : Hid (Below w2.heap.size w2 W2) := HB.out.trans (hb2.mono HB.out.size)
      have HM2 : Hid (IO (W2.alloc (.cells (itV x) 25)) W2.heap.size (.slice (some ⟨W2.heap.size, 0, none⟩) 1 1) [x]) := IO.made W2 x
      have hb3 : Below W2.heap.size W2 (W2.alloc (.cells (itV x) 25)) := (Below.refl _ _).alloc (Nat.le_refl _) _
      have HO3 : Hid (IO (W2.alloc (.cells (itV x) 25)) w2.heap.size (.slice ua F.length uc) F) := (HO.out.below hb2).below hb3
      have HB3 : Hid (Below w2.heap.size w2 (W2.alloc (.cells (itV x) 25))) := HB2'.out.trans (hb3.mono HB2'.out.size)
      have hz3 : W2.heap.size ≤ (W2.alloc (.cells (itV x) 25)).heap.size := hb3.size
      have hF1 : [x].length + F.length ≤ 1000000 := by simp; omega
      clear hW2 hb2 hb3 hh2 hx
      go_upto_region 6 with fail
      rw [HW2.out]
      clear c0 c1 c2 c3 c4 hzo
      obtain ⟨x0, x1, x2, x3, x4⟩ := cells5 HH2.out
      go_wp2_with (at_builtin; refine append_its rfl _ _ rfl W2.heap.size w2.heap.size (.slice (some ⟨W2.heap.size, 0, none⟩) 1 1) (.slice ua F.length uc) [x] F rfl rfl HM2.out HO3.out hF1 hz3 ?_; rw [← HT1.out]; intro a' c' w5 hO5 hg5)
      have HO5 : Hid (IO w5 w2.heap.size (.slice a' F2.length c') F2) := hO5.base HB2'.out.size
      have HB5 : Hid (Below w2.heap.size w2 w5) := HB3.out.grown hg5 HB3.out.size (fun k hk => by cases hk; exact HB2'.out.size)
      clear hO5 hg5
      go_wp2
      go_roundw
      case rel => exact ⟨k + 1, a', c', by omega, by go_num, by rw [← HF2.out], by rw [← HF2.out]; exact HO5.out, HB5.out⟩
      case measure => simp [intOf]; omega
    · have hkn : k = n := by omega
      subst hkn
      have HTA : Hid ((l.take k).reverse = l.reverse) := by unfold Hid; rw [HN.out, List.take_length]
      rw [HTA.out] at HO hrl ⊢
      have HRP : Hid (l.reverse.Perm l) := List.reverse_perm l
      have HRN : Hid (l.reverse.length = k) := by unfold Hid; rw [List.length_reverse]; exact HN.out.symm
      have HOR : Hid (ItB l.reverse) := fun x hx => HOK.out x (List.mem_reverse.1 hx)
      generalize l.reverse = r at *
      have hrk : r.length = k := HRN.out
      rw [hrk] at HO ⊢
      clear hrl hrk HTA
      have HBW : Hid (Below w.heap.size w wr) := HB2.out.trans (HB.out.mono HB2.out.size)
      have HVL : Hid (IV wr (.slice fa k fc) l) := HVL2.out.below HB.out
      have HVM : Hid (IV wr (.slice ga k2 gc) m) := HVM2.out.below HB.out
      have HVR : Hid (IV wr (.slice ua k uc) r) := HO.out.iv
      have HCL : Hid (∀ W, Below wr.heap.size wr W → Calls Tryd.prog 7 #[.slice fa k fc] W fun e w' => ∃ z, e = .returned (.int .i64 z) ∧ ChkP l z ∧ Below W.heap.size W w') := fun W hW => check_any (.slice fa k fc) l W (HVL.out.below hW) HOK.out (HLy.out.below (HBW.out.trans (hW.mono HBW.out.size))) (by rw [← HN.out]; omega)
      have HCM : Hid (∀ W, Below wr.heap.size wr W → Calls Tryd.prog 7 #[.slice ga k2 gc] W fun e w' => ∃ z, e = .returned (.int .i64 z) ∧ ChkP m z ∧ Below W.heap.size W w') := fun W hW => check_any (.slice ga k2 gc) m W (HVM.out.below hW) HOM.out (HLy.out.below (HBW.out.trans (hW.mono HBW.out.size))) (by rw [← HM.out]; omega)
      have HCR : Hid (∀ W, Below wr.heap.size wr W → Calls Tryd.prog 7 #[.slice ua k uc] W fun e w' => ∃ z, e = .returned (.int .i64 z) ∧ ChkP r z ∧ Below W.heap.size W w') := fun W hW => check_any (.slice ua k uc) r W (HVR.out.below hW) HOR.out (HLy.out.below (HBW.out.trans (hW.mono HBW.out.size))) (by rw [HRN.out]; omega)
      have HAW : Hid (∀ W, Below wr.heap.size wr W → Calls Tryd.prog 8 #[] W fun e w' => e = .returned (.bool true) ∧ Below W.heap.size W w') := fun W hW => awake13_any W (HLy.out.below (HBW.out.trans (hW.mono HBW.out.size)))
      clear HO HB HB2 HVL2 HVM2
      have HC1 : Hid (Calls Tryd.prog _ _ _ _) := HCL.out wr (Below.refl _ _)
      go_wp2_with fail
      refine HC1.out.mono ?_
      rintro e w3 ⟨z, rfl, hz, hb3⟩
      have HZ : Hid (ChkP l z) := hz
      have HB3 : Hid (Below wr.heap.size wr w3) := hb3
      clear hz hb3 HC1
      by_cases hz0 : z = 0
      case neg =>
        have hzb : (z == 0) = false := beq_eq_false_iff_ne.2 hz0
        have hzn : (z != 0) = true := by rw [bne, hzb]; rfl
        have HNT : Hid (¬ IsTree l) := fun h => hz0 ((chk_tree HZ.out).2 h)
        have HA3 : Hid (Calls Tryd.prog _ _ _ _) := HAW.out w3 HB3.out
        clear hz0
        go_wp2_with fail
        refine HA3.out.mono ?_
        rintro e w4 ⟨rfl, hb4⟩
        have HB4 : Hid (Below wr.heap.size wr w4) := HB3.out.trans (hb4.mono HB3.out.size)
        have HC4 : Hid (Calls Tryd.prog _ _ _ _) := HCL.out w4 HB4.out
        clear hb4 HA3
        go_wp2_with fail
        refine HC4.out.mono ?_
        rintro e w5 ⟨z5, rfl, hz5, hb5⟩
        have HB5 : Hid (Below wr.heap.size wr w5) := HB4.out.trans (hb5.mono HB4.out.size)
        have HZ5 : Hid (ChkP l z5) := hz5
        have HC5 : Hid (Calls Tryd.prog _ _ _ _) := HCR.out w5 HB5.out
        clear hz5 hb5 HC4
        go_wp2_with fail
        refine HC5.out.mono ?_
        rintro e w6 ⟨z6, rfl, hz6, hb6⟩
        have HB6 : Hid (Below wr.heap.size wr w6) := HB5.out.trans (hb6.mono HB5.out.size)
        have hzz : (z5 == 0) = (z6 == 0) := chk_both0 HRP.out HZ5.out hz6
        have h5 : z5 ≠ 0 := fun e => HNT.out ((chk_tree HZ5.out).1 e)
        have h6 : z6 ≠ 0 := fun e => h5 ((chk_tree HZ5.out).2 (((chk_tree hz6).1 e).perm HRP.out))
        have h5b : (z5 == 0) = false := beq_eq_false_iff_ne.2 h5
        have h6b : (z6 == 0) = false := beq_eq_false_iff_ne.2 h6
        clear hz6 hb6 HC5 hzz h5 h6
        go_wp2
        go_ret
        exact ⟨rfl, HBW.out.trans (HB6.out.mono HBW.out.size)⟩
      subst hz0
      have HTL : Hid (IsTree l) := (chk_tree HZ.out).1 rfl
      have HC3 : Hid (Calls Tryd.prog _ _ _ _) := HCM.out w3 HB3.out
      clear HZ
      go_wp2_with fail
      refine HC3.out.mono ?_
      rintro e w4 ⟨z, rfl, hz, hb4⟩
      have HZ : Hid (ChkP m z) := hz
      have HB4 : Hid (Below wr.heap.size wr w4) := HB3.out.trans (hb4.mono HB3.out.size)
      clear hz hb4 HC3
      by_cases hz0 : z = 0
      case neg =>
        have hzb : (z == 0) = false := beq_eq_false_iff_ne.2 hz0
        have hzn : (z != 0) = true := by rw [bne, hzb]; rfl
        have HA3 : Hid (Calls Tryd.prog _ _ _ _) := HAW.out w4 HB4.out
        clear hz0
        go_wp2_with fail
        refine HA3.out.mono ?_
        rintro e w5 ⟨rfl, hb5⟩
        have HB5 : Hid (Below wr.heap.size wr w5) := HB4.out.trans (hb5.mono HB4.out.size)
        have HC4 : Hid (Calls Tryd.prog _ _ _ _) := HCL.out w5 HB5.out
        clear hb5 HA3
        go_wp2_with fail
        refine HC4.out.mono ?_
        rintro e w6 ⟨z6, rfl, hz6, hb6⟩
        obtain rfl := (chk_tree hz6).2 HTL.out
        have HB6 : Hid (Below wr.heap.size wr w6) := HB5.out.trans (hb6.mono HB5.out.size)
        have HC5 : Hid (Calls Tryd.prog _ _ _ _) := HCR.out w6 HB6.out
        clear hz6 hb6 HC4
        go_wp2_with fail
        refine HC5.out.mono ?_
        rintro e w7 ⟨z7, rfl, hz7, hb7⟩
        obtain rfl := (chk_tree hz7).2 (HTL.out.perm HRP.out.symm)
        have HB7 : Hid (Below wr.heap.size wr w7) := HB6.out.trans (hb7.mono HB6.out.size)
        clear hz7 hb7 HC5
        go_wp2
        go_ret
        exact ⟨rfl, HBW.out.trans (HB7.out.mono HBW.out.size)⟩
      subst hz0
      have HTM : Hid (IsTree m) := (chk_tree HZ.out).1 rfl
      have HTR : Hid (IsTree r) := HTL.out.perm HRP.out.symm
      have HVL4 : Hid (IV w4 (.slice fa k fc) l) := HVL.out.below HB4.out
      have HVM4 : Hid (IV w4 (.slice ga k2 gc) m) := HVM.out.below HB4.out
      have HVR4 : Hid (IV w4 (.slice ua k uc) r) := HVR.out.below HB4.out
      have HLA : Hid (∀ W, Below wr.heap.size wr W → Lay11 W) := fun W hW => HLy.out.below (HBW.out.trans (hW.mono HBW.out.size))
      have HD1 : Hid (Calls Tryd.prog _ _ _ _) := diff_any (.slice fa k fc) (.slice ua k uc) l r w4 HVL4.out HVR4.out HOK.out HOR.out (HLA.out w4 HB4.out) HTL.out HTR.out
      clear HZ HCL HCM HCR HVL4 HVM4 HVR4
      go_wp2_with fail
      refine HD1.out.mono ?_
      rintro e w5 ⟨la, lr, da, dc, p1, s1, p2, s2, rfl, -, hb5⟩
      have hlr : la = lr := srt_one la lr s1 s2 ((p1.trans HRP.out.symm).trans p2.symm) ((p1.symm.map It.p).nodup_iff.1 HTL.out.2.2.1)
      subst hlr
      rw [chg_self la]
      have HB5 : Hid (Below wr.heap.size wr w5) := HB4.out.trans (hb5.mono HB4.out.size)
      have HD2 : Hid (Calls Tryd.prog _ _ _ _) := diff_any (.slice fa k fc) (.slice ga k2 gc) l m w5 (HVL.out.below HB5.out) (HVM.out.below HB5.out) HOK.out HOM.out (HLA.out w5 HB5.out) HTL.out HTM.out
      clear hb5 HD1 p1 p2 s1 s2 la
      go_wp2_with fail
      refine HD2.out.mono ?_
      rintro e w6 ⟨la, lb, ea, ec, p1, s1, p2, s2, rfl, hc, hb6⟩
      have HB6 : Hid (Below wr.heap.size wr w6) := HB5.out.trans (hb6.mono HB5.out.size)
      have HPA : Hid (la.Perm l ∧ Srt la ∧ lb.Perm m ∧ Srt lb) := ⟨p1, s1, p2, s2⟩
      have HCO : Hid (CO w6 w5.heap.size (.slice ea (chgN la lb).length ec) (chgN la lb)) := hc
      have HD3 : Hid (Calls Tryd.prog _ _ _ _) := diff_any (.slice ga k2 gc) (.slice fa k fc) m l w6 (HVM.out.below HB6.out) (HVL.out.below HB6.out) HOM.out HOK.out (HLA.out w6 HB6.out) HTM.out HTL.out
      clear hb6 HD2 p1 p2 s1 s2 hc
      go_wp2_with fail
      refine HD3.out.mono ?_
      rintro e w7 ⟨mb, ma, ga7, gc7, p1, s1, p2, s2, rfl, hc, hb7⟩
      have e1 : mb = lb := srt_one mb lb s1 HPA.out.2.2.2 (p1.trans HPA.out.2.2.1.symm) ((p1.symm.map It.p).nodup_iff.1 HTM.out.2.2.1)
      have e2 : ma = la := srt_one ma la s2 HPA.out.2.1 (p2.trans HPA.out.1.symm) ((p2.symm.map It.p).nodup_iff.1 HTL.out.2.2.1)
      subst e1 e2
      have HB7 : Hid (Below wr.heap.size wr w7) := HB6.out.trans (hb7.mono HB6.out.size)
      have HTN : Hid (TurnL (chgN ma mb) (chgN mb ma)) := chg_turn _ ma mb (Nat.le_refl _)
      have HC6 : Hid (CO w7 w5.heap.size (.slice ea (chgN ma mb).length ec) (chgN ma mb)) := HCO.out.below hb7
      have HC7 : Hid (CO w7 w6.heap.size (.slice ga7 (chgN mb ma).length gc7) (chgN mb ma)) := hc
      have hll : (chgN mb ma).length = (chgN ma mb).length := HTN.out.len.symm
      have hlc : (chgN ma mb).length ≤ 400 := Nat.le_trans (chg_len _ ma mb rfl) (by have h1 := HPA.out.1.length_eq; have h2 := HPA.out.2.2.1.length_eq; have := HTL.out.1; have := HTM.out.1; omega)
      clear hc hb7 HD3 p1 p2 s1 s2 HCO
      rw [hll] at HC7 ⊢
      generalize chgN ma mb = C1 at *
      generalize chgN mb ma = C2 at *
      obtain ⟨cn, hcn⟩ : ∃ cn, cn = C1.length := ⟨_, rfl⟩
      have HCN : Hid (cn = C1.length) := hcn
      rw [← hcn] at HC6 HC7 hlc hll ⊢
      clear hcn
      go_wp2
      go_loopw [97] (fun v wx => ∃ (j : Nat), j ≤ cn ∧ v = .int .i64 (j : Int) ∧ Below w7.heap.size w7 wx) (fun v _ => cn - (intOf v).toNat)
      case atStart => exact ⟨0, Nat.zero_le _, rfl, Below.refl _ _⟩
      case round =>
        rename World => wx
        obtain ⟨j, hj, rfl, hbx⟩ := hrel
        have HBX : Hid (Below w7.heap.size w7 wx) := hbx
        clear hbx
        by_cases hlt2 : j < cn
        · have hlti : (j : Int) < (cn : Int) := by omega
          have hj0 : (0 : Int) ≤ (j : Int) := by omega
          obtain ⟨c, hc⟩ : ∃ c, C1[j]? = some c := ⟨_, List.getElem?_eq_getElem (by rw [← HCN.out]; exact hlt2)⟩
          obtain ⟨dd, hd, hp, htr⟩ := HTN.out.at hc
          obtain ⟨g1, rfl, hg1, -, x0, x1⟩ := (HC6.out.below HBX.out).at hc
          obtain ⟨g2, rfl, hg2, -, y0, y1⟩ := (HC7.out.below HBX.out).at hd
          rw [← hp] at y0
          have kst : ((mkB c.p).toList == (mkB c.p).toList) = true := by simp
          have jst : ((mkB c.p).toList != (mkB c.p).toList) = false := by rw [bne, kst]; rfl
          have HTR : Hid (∀ W, Calls Tryd.prog 10 #[.int .i64 c.w, .int .i64 dd.w] W fun e w' => e = .returned (.bool true) ∧ w' = W) := fun W => turned_any c.w dd.w W htr
          have HRL : Hid (∀ W, Below wx.heap.size wx W → Below w7.heap.size w7 W) := fun W hW => HBX.out.trans (hW.mono HBX.out.size)
          clear hc hd hp htr hlt2
          go_upto_region 18 with fail
          have hS0 : wx.drew.cell? ⟨g1, j * 2, none⟩ = some (.string (mkB c.p)) ∧ wx.drew.cell? ⟨g1, j * 2 + 1, none⟩ = some (.int .i64 c.w) ∧ wx.drew.cell? ⟨g2, j * 2, none⟩ = some (.string (mkB c.p)) ∧ wx.drew.cell? ⟨g2, j * 2 + 1, none⟩ = some (.int .i64 dd.w) ∧ Below wx.heap.size wx wx.drew := ⟨x0, x1, y0, y1, (Below.refl _ _).drew⟩
          go_region_held3 (fun W => W.cell? ⟨g1, j * 2, none⟩ = some (.string (mkB c.p)) ∧ W.cell? ⟨g1, j * 2 + 1, none⟩ = some (.int .i64 c.w) ∧ W.cell? ⟨g2, j * 2, none⟩ = some (.string (mkB c.p)) ∧ W.cell? ⟨g2, j * 2 + 1, none⟩ = some (.int .i64 dd.w) ∧ Below wx.heap.size wx W) (first | exact hS0 | assumption) ((first | (go_at_call 10; refine (HTR.out _).mono ?_; rintro e w8 ⟨rfl, e8⟩; have e9 := e8.symm; subst e9)))
          all_goals
            clear hS0
            go_wp2
            go_roundw
            case rel => exact ⟨j + 1, by omega, by go_num, HRL.out _ (Below.refl _ _).drew⟩
            case measure => simp [intOf]; omega
        · have hjn : j = cn := by omega
          subst hjn
          have HBY : Hid (Below wr.heap.size wr wx) := HB7.out.trans (HBX.out.mono HB7.out.size)
          have HWL : Hid (Calls Tryd.prog _ _ _ _) := walk_any (.slice fa k fc) l wx (HVL.out.below HBY.out) HOK.out (HLA.out wx HBY.out) (by rw [← HN.out]; omega)
          clear HC6 HC7 HTN HB7 HBX hll hlc hlt2
          go_wp2_with fail
          refine HWL.out.mono ?_
          rintro e w8 ⟨hw, hb8⟩
          obtain ⟨v8, l8, rfl, p8, s8, i8, -⟩ := hw.good HTL.out
          obtain ⟨a8, c8, rfl, -, -, -⟩ := id i8
          have HB8 : Hid (Below wr.heap.size wr w8) := HBY.out.trans (hb8.mono HBY.out.size)
          have HI8 : Hid (IV w8 (.slice a8 l8.length c8) l8) := i8
          have HP8 : Hid (l8.Perm l ∧ Srt l8) := ⟨p8, s8⟩
          have HWR : Hid (Calls Tryd.prog _ _ _ _) := walk_any (.slice ua k uc) r w8 (HVR.out.below HB8.out) HOR.out (HLA.out w8 HB8.out) (by rw [HRN.out]; omega)
          clear hw hb8 p8 s8 i8 HWL
          go_wp2_with fail
          refine HWR.out.mono ?_
          rintro e w9 ⟨hw, hb9⟩
          obtain ⟨v9, l9, rfl, p9, s9, i9, -⟩ := hw.good HTR.out
          obtain ⟨a9, c9, rfl, -, -, -⟩ := id i9
          have e9 : l9 = l8 := srt_one l9 l8 s9 HP8.out.2 ((p9.trans HRP.out).trans HP8.out.1.symm) ((p9.symm.map It.p).nodup_iff.1 HTR.out.2.2.1)
          subst e9
          have HB9 : Hid (Below wr.heap.size wr w9) := HB8.out.trans (hb9.mono HB8.out.size)
          have HI9 : Hid (IV w9 (.slice a9 l9.length c9) l9) := i9
          have HI8' : Hid (IV w9 (.slice a8 l9.length c8) l9) := HI8.out.below hb9
          have HA9 : Hid (Calls Tryd.prog _ _ _ _) := HAW.out w9 HB9.out
          have hl9 : l9.length = k := by rw [HP8.out.1.length_eq]; exact HN.out.symm
          have HL9 : Hid (l9.length = k) := hl9
          rw [hl9] at HI9 HI8' ⊢
          clear hw hb9 p9 s9 i9 HWR HI8 hl9
          go_wp2_with fail
          refine HA9.out.mono ?_
          rintro e w10 ⟨rfl, hb10⟩
          have HB10 : Hid (Below wr.heap.size wr w10) := HB9.out.trans (hb10.mono HB9.out.size)
          have HSM : Hid (Calls Tryd.prog _ _ _ _) := same_one (.slice a8 k c8) (.slice a9 k c9) l9 w10 (HI8'.out.below hb10) (HI9.out.below hb10) (by rw [HL9.out]; omega)
          clear hb10 HA9
          go_wp2_with fail
          refine HSM.out.mono ?_
          rintro e w11 ⟨rfl, hb11⟩
          have HB11 : Hid (Below wr.heap.size wr w11) := HB10.out.trans (hb11.mono HB10.out.size)
          clear hb11 HSM
          go_wp2
          go_ret
          exact ⟨rfl, HBW.out.trans (HB11.out.mono HBW.out.size)⟩
end Go.Proofs.YtmjfcneofpddiaaDoor
