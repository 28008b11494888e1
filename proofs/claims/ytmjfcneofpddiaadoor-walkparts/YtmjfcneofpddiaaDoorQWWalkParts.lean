/- The walk of WalkParts. -/
import Derived.Test.YtmjfcneofpddiaaDoorQWpA
import Derived.Test.YtmjfcneofpddiaaDoorQWpE
import Derived.Test.YtmjfcneofpddiaaDoorQOpsI
import Derived.Test.YtmjfcneofpddiaaDoorQKeep
import Derived.Test.YtmjfcneofpddiaaDoorQGrow
namespace Go.Proofs.YtmjfcneofpddiaaDoor
open Go.RowKit Go.Maps
set_option linter.unusedVariables false
set_option linter.unusedSimpArgs false

theorem mem_take_succ {l : List It} {k : Nat} {y : It} (h : l[k]? = some y) (x : It) : decide (x ∈ l.take (k + 1)) = (decide (x ∈ l.take k) || decide (x = y)) := by
  rw [List.take_add_one, h]
  simp [Option.toList]
theorem take_allI {l : List It} {n : Nat} (h : n = l.length) : l.take n = l := by rw [h, List.take_length]
theorem und_mem {q : List UInt8} {l : List It} {x : It} (h : x ∈ undL q l) : x ∈ l := by
  unfold undL at h
  split at h
  · cases h
  · exact (List.mem_filter.1 h).1
theorem und_le (q : List UInt8) (l : List It) : (undL q l).length ≤ l.length := by
  unfold undL
  split
  · simp
  · exact List.length_filter_le _ _
set_option maxRecDepth 100000 in
set_option maxHeartbeats 8000000 in
theorem lawWalkParts_walk (a0 : Option Addr) (len0 cap0 : Nat) (z0 : List It) (a1 : ByteArray) (w : World) (b0 : IsIts w a0 len0 cap0 z0) (b1 : a1.size ≤ 140737488351232) (hL : Lay11 w) :
    Calls Tryd.prog 4 #[.slice a0 len0 cap0, .string a1] w fun e w' => e = .returned (.bool true) ∧ Below w.heap.size w w' := by
  obtain ⟨q, rfl⟩ : ∃ q, a1 = mkB q := ⟨_, mkB_of a1⟩
  have zq := mkB_size q
  rw [zq] at b1
  obtain ⟨hlen, hl63, hok, hiv⟩ := b0
  obtain ⟨l, hl⟩ : ∃ l, l = z0.take 100 := ⟨_, rfl⟩
  have HOK : Hid (ItB l) := fun x hx => (hok x (List.mem_of_mem_take (by rw [← hl]; exact hx))).2.2.2
  have hl100 : l.length ≤ 100 := by rw [hl, List.length_take]; omega
  have HF : Hid (Calls Tryd.prog _ _ _ _) := few13_any a0 len0 cap0 z0 100 w hiv hlen (by decide) hl63
  rw [← hl] at HF
  have HLy : Hid (Lay11 w) := hL
  have HQZ : Hid (q.length ≤ 140737488351232) := b1
  clear hok hiv hlen hl63 hl hL b1 zq
  go_enter Tryd.func4, Tryd.ntmps4
  go_wp2_with fail
  refine HF.out.mono ?_
  rintro e w1 ⟨fa, fc, rfl, hfo, hfb⟩
  have HB1 : Hid (Below w.heap.size w w1) := hfb
  have HV1 : Hid (IV w1 (.slice fa l.length fc) l) := hfo.iv
  have HCK : Hid (Calls Tryd.prog _ _ _ _) := check_any (.slice fa l.length fc) l w1 hfo.iv HOK.out (HLy.out.below hfb) (by omega)
  clear hfo hfb HF
  obtain ⟨n, hn⟩ : ∃ n, n = l.length := ⟨_, rfl⟩
  have HN : Hid (n = l.length) := hn
  rw [← hn] at hl100 HV1 HCK
  rw [← hn]
  clear hn
  go_wp2_with fail
  refine HCK.out.mono ?_
  rintro e w2 ⟨z, rfl, hz, hb2⟩
  have HB2 : Hid (Below w.heap.size w w2) := HB1.out.trans (hb2.mono HB1.out.size)
  have HV2 : Hid (IV w2 (.slice fa n fc) l) := HV1.out.below hb2
  have HZ : Hid (ChkP l z) := hz
  clear hb2 hz HCK HV1 HB1
  by_cases hz0 : z = 0
  case neg =>
    have hzb : (z == 0) = false := beq_eq_false_iff_ne.2 hz0
    have HAW : Hid (Calls Tryd.prog _ _ _ _) := awake13_any w2 (HLy.out.below HB2.out)
    clear hz0
    go_wp2_with fail
    refine HAW.out.mono ?_
    rintro e w3 ⟨rfl, hb3⟩
    have HB3 : Hid (Below w.heap.size w w3) := HB2.out.trans (hb3.mono HB2.out.size)
    clear hb3 HAW
    go_wp2
    go_ret
    exact ⟨rfl, HB3.out⟩
  subst hz0
  have HT : Hid (IsTree l) := (chk_tree HZ.out).1 rfl
  have HSZ : Hid (sizeI l ≤ 6553600 ∧ ∀ x ∈ l, x.p.length ≤ 200 ∧ x.d.length ≤ 32768) := HT.out.sizes
  have HUN : Hid (∀ (v : Value) (m : List It) (W : World), IV W v m → m.length ≤ 1000 → (∀ x ∈ m, x ∈ l) → Calls Tryd.prog 13 #[v, .string (mkB q)] W fun e w' => ∃ a' c', e = .returned (.slice a' (undL q m).length c') ∧ IO w' W.heap.size (.slice a' (undL q m).length c') (undL q m) ∧ Below W.heap.size W w') := fun v m W h1 h2 h3 => under_any v m q W h1 h2 (fun x hx => by have := (HSZ.out.2 x (h3 x hx)).1; omega) HQZ.out
  have HU2 : Hid (Calls Tryd.prog _ _ _ _) := HUN.out (.slice fa n fc) l w2 HV2.out (by rw [← HN.out]; omega) (fun x hx => hx)
  clear HZ
  go_wp2_with fail
  refine HU2.out.mono ?_
  rintro e w3 ⟨pa, pc, rfl, hpo, hpb⟩
  have HB3 : Hid (Below w.heap.size w w3) := HB2.out.trans (hpb.mono HB2.out.size)
  have HV3 : Hid (IV w3 (.slice fa n fc) l) := HV2.out.below hpb
  have HPQ : Hid (undL q (undL q l) = undL q l ∧ undL q (rstL (undL q l) l) = [] ∧ (undL q l).length + (rstL (undL q l) l).length = n ∧ sizeI (undL q l) + sizeI (rstL (undL q l) l) = sizeI l ∧ IsTree (rstL (undL q l) l) ∧ (∀ x ∈ undL q l, x ∈ l) ∧ (∀ x ∈ rstL (undL q l) l, x ∈ l)) := by
    refine ⟨und_again q l, und_rest q l, ?_, ?_, HT.out.rest q, fun x hx => und_mem hx, fun x hx => (List.mem_filter.1 hx).1⟩
    · rw [rstL_P, undL_P, HN.out]; exact len_parts _ _
    · rw [rstL_P, undL_P]; exact size_parts _ _
  have hpl : (undL q l).length ≤ n := by rw [HN.out]; exact und_le q l
  have HVP : Hid (IV w3 (.slice pa (undL q l).length pc) (undL q l)) := hpo.iv
  clear hpo hpb HU2 HV2 HB2
  generalize undL q l = P at *
  obtain ⟨pn, hpn⟩ : ∃ pn, pn = P.length := ⟨_, rfl⟩
  have HPN : Hid (pn = P.length) := hpn
  rw [← hpn] at hpl HVP HPQ
  rw [← hpn]
  clear hpn
  have HR0 : Hid (IO (w3.alloc (.cells #[] 25)) w3.heap.size (.slice (some ⟨w3.heap.size, 0, none⟩) 0 0) []) := IO.nilZ w3
  have HRB : Hid (Below w3.heap.size w3 (w3.alloc (.cells #[] 25))) := (Below.refl _ _).alloc (Nat.le_refl _) _
  have HRL : Hid (∀ k, (rstL P (l.take k)).length ≤ k) := fun k => Nat.le_trans (rstL_le _ _) (by rw [List.length_take]; omega)
  go_wp2
  go_loopw [7, 26] (fun s i wr => ∃ (k : Nat) (ua : Option Addr) (uc : Nat), k ≤ n ∧ i = .int .i64 (k : Int) ∧ s = .slice ua (rstL P (l.take k)).length uc ∧ IO wr w3.heap.size (.slice ua (rstL P (l.take k)).length uc) (rstL P (l.take k)) ∧ Below w3.heap.size w3 wr) (fun _ i _ => n - (intOf i).toNat)
  case atStart => exact ⟨0, some ⟨w3.heap.size, 0, none⟩, 0, Nat.zero_le _, rfl, rfl, HR0.out, HRB.out⟩
  case round =>
    obtain ⟨k, ua, uc, hk, rfl, rfl, hO, hb⟩ := hrel
    have HO : Hid (IO wr w3.heap.size (.slice ua (rstL P (l.take k)).length uc) (rstL P (l.take k))) := hO
    have HB : Hid (Below w3.heap.size w3 wr) := hb
    have hrl := HRL.out k
    clear hO hb HR0 HRB
    by_cases hlt : k < n
    · obtain ⟨x, hx⟩ : ∃ x, l[k]? = some x := ⟨_, List.getElem?_eq_getElem (by rw [← HN.out]; exact hlt)⟩
      have hlti : (k : Int) < (n : Int) := by omega
      obtain ⟨g, o, rfl, hg, -, hcap, c0, c1, c2, c3, c4⟩ := (HV3.out.below HB.out).at hx
      have HT1 : Hid (rstL P (l.take (k + 1)) = rstL P (l.take k) ++ if x ∈ P then [] else [x]) := by unfold Hid; rw [List.take_add_one, hx]; exact rstL_snoc _ _ x
      generalize rstL P (l.take k) = F at *
      have hzo := zeroIt
      obtain ⟨W2, hW2⟩ : ∃ W2, W2 = wr.alloc (.cells #[.string (mkB x.p), .int .i64 x.k, .int .i64 x.m, .int .i64 x.t, .string (mkB x.d)] 25) := ⟨_, rfl⟩
      have hb2 : Below wr.heap.size wr W2 := by rw [hW2]; exact (Below.refl _ _).alloc (Nat.le_refl _) _
      have HX2 : Hid (W2.heap[wr.heap.size]? = some (.cells #[.string (mkB x.p), .int .i64 x.k, .int .i64 x.m, .int .i64 x.t, .string (mkB x.d)] 25 (0, 0))) := by unfold Hid; rw [hW2]; exact heap_alloc_new wr _
      have HB2 : Hid (Below w3.heap.size w3 W2) := HB.out.trans (hb2.mono HB.out.size)
      have HO2 : Hid (IO W2 w3.heap.size (.slice ua F.length uc) F) := HO.out.below hb2
      have HS2 : Hid (wr.heap.size < W2.heap.size) := by unfold Hid; rw [hW2]; simp
      have HW2 : Hid (wr.alloc (.cells #[.string (mkB x.p), .int .i64 x.k, .int .i64 x.m, .int .i64 x.t, .string (mkB x.d)] 25) = W2) := hW2.symm
      clear hW2 hb2 hx
      go_upto_region 10 with fail
      rw [HW2.out]
      clear c0 c1 c2 c3 c4 hzo
      go_wp2
      go_loopw [10, 32] (fun b j wx => ∃ (m : Nat), m ≤ pn ∧ j = .int .i64 (m : Int) ∧ b = .bool (decide (x ∈ P.take m)) ∧ Below W2.heap.size W2 wx) (fun _ j _ => pn - (intOf j).toNat)
      case atStart => exact ⟨0, Nat.zero_le _, rfl, by simp, Below.refl _ _⟩
      case round =>
        rename World => wx
        obtain ⟨m, hm, rfl, rfl, hbx⟩ := hrel
        have HBX : Hid (Below W2.heap.size W2 wx) := hbx
        clear hbx
        obtain ⟨x0, x1, x2, x3, x4⟩ := cells5 ((HBX.out.block _ HS2.out).trans HX2.out)
        by_cases hlt2 : m < pn
        · obtain ⟨y, hy⟩ : ∃ y, P[m]? = some y := ⟨_, List.getElem?_eq_getElem (by rw [← HPN.out]; exact hlt2)⟩
          have hlti2 : (m : Int) < (pn : Int) := by omega
          obtain ⟨g', o', rfl, hg', -, hcap', d0, d1, d2, d3, d4⟩ := ((HVP.out.below HB2.out).below HBX.out).at hy
          have hzo := zeroIt
          have HM : Hid (decide (x ∈ P.take (m + 1)) = (decide (x ∈ P.take m) || decide (x = y))) := mem_take_succ hy x
          obtain ⟨W4, hW4⟩ : ∃ W4, W4 = wx.alloc (.cells #[.string (mkB y.p), .int .i64 y.k, .int .i64 y.m, .int .i64 y.t, .string (mkB y.d)] 25) := ⟨_, rfl⟩
          have hb4 : Below wx.heap.size wx W4 := by rw [hW4]; exact (Below.refl _ _).alloc (Nat.le_refl _) _
          have HB4 : Hid (Below W2.heap.size W2 W4) := HBX.out.trans (hb4.mono HBX.out.size)
          have hh4 : W4.heap[wx.heap.size]? = some (.cells #[.string (mkB y.p), .int .i64 y.k, .int .i64 y.m, .int .i64 y.t, .string (mkB y.d)] 25 (0, 0)) := by rw [hW4]; exact heap_alloc_new wx _
          have HH4 : Hid (W4.heap[wx.heap.size]? = _) := hh4
          have HW4 : Hid (wx.alloc (.cells #[.string (mkB y.p), .int .i64 y.k, .int .i64 y.m, .int .i64 y.t, .string (mkB y.d)] 25) = W4) := hW4.symm
          clear hW4 hb4 hy hh4
          go_upto_region 13 with fail
          rw [HW4.out]
          clear d0 d1 d2 d3 d4 x0 x1 x2 x3 x4 hzo
          obtain ⟨x0, x1, x2, x3, x4⟩ := cells5 ((HB4.out.block _ HS2.out).trans HX2.out)
          obtain ⟨y0, y1, y2, y3, y4⟩ := cells5 HH4.out
          have heq := eql_it x y
          generalize decide (x = y) = be at *
          cases hbm : decide (x ∈ P.take m)
          · rw [hbm, Bool.false_or] at HM
            go_wp2
            go_roundw
            case rel => exact ⟨m + 1, by omega, by go_num, by rw [HM.out], HB4.out⟩
            case measure => simp [intOf]; omega
          · rw [hbm, Bool.true_or] at HM
            go_wp2
            go_roundw
            case rel => exact ⟨m + 1, by omega, by go_num, by rw [HM.out], HB4.out⟩
            case measure => simp [intOf]; omega
        · have hmn : m = pn := by omega
          subst hmn
          have HTA : Hid (P.take m = P) := take_allI HPN.out
          rw [HTA.out]
          by_cases hin : x ∈ P
          · have hdt : decide (x ∈ P) = true := decide_eq_true hin
            rw [hdt]
            have HT2 : Hid (rstL P (l.take (k + 1)) = F) := by unfold Hid; rw [HT1.out, if_pos hin]; simp
            clear hin hdt
            have HBB : Hid (Below w3.heap.size w3 wx) := HB2.out.trans (HBX.out.mono HB2.out.size)
            have HOO : Hid (IO wx w3.heap.size (.slice ua F.length uc) F) := HO2.out.below HBX.out
            go_wp2
            go_roundw
            case rel => exact ⟨k + 1, ua, uc, by omega, by go_num, by rw [HT2.out], by rw [HT2.out]; exact HOO.out, HBB.out⟩
            case measure => simp [intOf]; omega
          · have hdt : decide (x ∈ P) = false := decide_eq_false hin
            rw [hdt]
            have HT2 : Hid (rstL P (l.take (k + 1)) = F ++ [x]) := by unfold Hid; rw [HT1.out, if_neg hin]
            clear hin hdt
            have HBB : Hid (Below w3.heap.size w3 wx) := HB2.out.trans (HBX.out.mono HB2.out.size)
            have HOO : Hid (IO wx w3.heap.size (.slice ua F.length uc) F) := HO2.out.below HBX.out
            have hF1 : F.length + 1 ≤ 1000000 := by omega
            have hz3 : w3.heap.size ≤ wx.heap.size := HBB.out.size
            go_wp2_with (at_builtin; refine append_it rfl _ _ rfl w3.heap.size (.slice ua F.length uc) F x rfl rfl HOO.out hF1 hz3 ?_; intro a' c' w5 hO5 hg5)
            have HO5 : Hid (IO w5 w3.heap.size (.slice a' (F.length + 1) c') (F ++ [x])) := hO5
            have HB5 : Hid (Below w3.heap.size w3 w5) := HBB.out.grown hg5 hz3 (fun k hk => (HOO.out.lt k hk).1)
            have HL5 : Hid ((rstL P (l.take (k + 1))).length = F.length + 1) := by unfold Hid; rw [HT2.out]; simp
            clear hO5 hg5
            go_wp2
            go_roundw
            case rel => exact ⟨k + 1, a', c', by omega, by go_num, by rw [HL5.out], by rw [HL5.out, HT2.out]; exact HO5.out, HB5.out⟩
            case measure => simp [intOf]; omega
    · have hkn : k = n := by omega
      subst hkn
      have HTA : Hid (l.take k = l) := take_allI HN.out
      rw [HTA.out] at HO hrl ⊢
      obtain ⟨u1, u2, u3, u4, u5, u6, u7⟩ := HPQ.out
      have HP6 : Hid ((∀ x ∈ P, x ∈ l) ∧ ∀ x ∈ rstL P l, x ∈ l) := ⟨u6, u7⟩
      have HP5 : Hid (IsTree (rstL P l)) := u5
      have HP12 : Hid (undL q P = P ∧ undL q (rstL P l) = []) := ⟨u1, u2⟩
      have HBW : Hid (Below w.heap.size w wr) := HB3.out.trans (HB.out.mono HB3.out.size)
      have HVL : Hid (IV wr (.slice fa k fc) l) := HV3.out.below HB.out
      have HVQ : Hid (IV wr (.slice pa pn pc) P) := HVP.out.below HB.out
      have HVR : Hid (IV wr (.slice ua (rstL P l).length uc) (rstL P l)) := HO.out.iv
      have HSI : Hid (∀ (v : Value) (m : List It) (W : World), IV W v m → m.length ≤ 1000000 → sizeI m ≤ 6553600 → Calls Tryd.prog 14 #[v] W fun e w' => e = .returned (.int .i64 (sizeI m : Int)) ∧ Below W.heap.size W w') := fun v m W h1 h2 h3 => size_any v m W h1 h2 (by omega)
      have HCR : Hid (Calls Tryd.prog _ _ _ _) := check_any (.slice ua (rstL P l).length uc) (rstL P l) wr HVR.out (fun x hx => HOK.out x (u7 x hx)) (HLy.out.below HBW.out) (by omega)
      have hs1 : sizeI P + sizeI (rstL P l) = sizeI l := u4
      have hs2 := HSZ.out.1
      clear u1 u2 u5 u6 u7 HB HO HB3 HV3 HVP HRL
      generalize rstL P l = R at *
      generalize hsl : sizeI l = sl at *
      generalize hsp : sizeI P = sp at *
      generalize hsr : sizeI R = sr at *
      generalize hrn : R.length = rn at *
      have hlen2 : (pn : Int) + (rn : Int) = (k : Int) := by omega
      have hsum2 : (sp : Int) + (sr : Int) = (sl : Int) := by omega
      have hpnk : pn ≤ 100 := by omega
      go_wp2_with fail
      refine HCR.out.mono ?_
      rintro e w4 ⟨z, rfl, hz, hb4⟩
      obtain rfl := (chk_tree hz).2 HP5.out
      have HB4 : Hid (Below w.heap.size w w4) := HBW.out.trans (hb4.mono HBW.out.size)
      have HVL4 : Hid (IV w4 (.slice fa k fc) l) := HVL.out.below hb4
      have HVQ4 : Hid (IV w4 (.slice pa pn pc) P) := HVQ.out.below hb4
      have HVR4 : Hid (IV w4 (.slice ua rn uc) R) := HVR.out.below hb4
      have HS4 : Hid (Calls Tryd.prog _ _ _ _) := HSI.out (.slice pa pn pc) P w4 HVQ4.out (by rw [← HPN.out]; omega) (by omega)
      rw [hsp] at HS4
      clear hz hb4 HCR HBW HVL HVQ HVR
      go_wp2_with fail
      refine HS4.out.mono ?_
      rintro e w5 ⟨rfl, hb5⟩
      have HB5 : Hid (Below w.heap.size w w5) := HB4.out.trans (hb5.mono HB4.out.size)
      have HVL5 : Hid (IV w5 (.slice fa k fc) l) := HVL4.out.below hb5
      have HVQ5 : Hid (IV w5 (.slice pa pn pc) P) := HVQ4.out.below hb5
      have HVR5 : Hid (IV w5 (.slice ua rn uc) R) := HVR4.out.below hb5
      have HS5 : Hid (Calls Tryd.prog _ _ _ _) := HSI.out (.slice ua rn uc) R w5 HVR5.out (by omega) (by omega)
      rw [hsr] at HS5
      clear hb5 HS4 HVL4 HVQ4 HVR4 HB4
      go_wp2_with fail
      refine HS5.out.mono ?_
      rintro e w6 ⟨rfl, hb6⟩
      have HB6 : Hid (Below w.heap.size w w6) := HB5.out.trans (hb6.mono HB5.out.size)
      have HVL6 : Hid (IV w6 (.slice fa k fc) l) := HVL5.out.below hb6
      have HVQ6 : Hid (IV w6 (.slice pa pn pc) P) := HVQ5.out.below hb6
      have HVR6 : Hid (IV w6 (.slice ua rn uc) R) := HVR5.out.below hb6
      have HS6 : Hid (Calls Tryd.prog _ _ _ _) := HSI.out (.slice fa k fc) l w6 HVL6.out (by rw [← HN.out]; omega) (by omega)
      rw [hsl] at HS6
      clear hb6 HS5 HVL5 HVQ5 HVR5 HB5
      go_wp2_with fail
      refine HS6.out.mono ?_
      rintro e w7 ⟨rfl, hb7⟩
      have HB7 : Hid (Below w.heap.size w w7) := HB6.out.trans (hb7.mono HB6.out.size)
      have HVQ7 : Hid (IV w7 (.slice pa pn pc) P) := HVQ6.out.below hb7
      have HVR7 : Hid (IV w7 (.slice ua rn uc) R) := HVR6.out.below hb7
      have HU7 : Hid (Calls Tryd.prog _ _ _ _) := HUN.out (.slice pa pn pc) P w7 HVQ7.out (by rw [← HPN.out]; omega) HP6.out.1
      rw [HP12.out.1] at HU7
      clear hb7 HS6 HVL6 HVQ6 HVR6 HB6 HSI
      go_wp2_with fail
      refine HU7.out.mono ?_
      rintro e w8 ⟨ga, gc, rfl, hgo, hb8⟩
      have HB8 : Hid (Below w.heap.size w w8) := HB7.out.trans (hb8.mono HB7.out.size)
      have HVQ8 : Hid (IV w8 (.slice pa pn pc) P) := HVQ7.out.below hb8
      have HVR8 : Hid (IV w8 (.slice ua rn uc) R) := HVR7.out.below hb8
      have HVG8 : Hid (IV w8 (.slice ga P.length gc) P) := hgo.iv
      have HA8 : Hid (Calls Tryd.prog _ _ _ _) := awake13_any w8 (HLy.out.below HB8.out)
      clear hb8 hgo HU7 HVQ7 HVR7 HB7
      go_wp2_with fail
      refine HA8.out.mono ?_
      rintro e w9 ⟨rfl, hb9⟩
      have HB9 : Hid (Below w.heap.size w w9) := HB8.out.trans (hb9.mono HB8.out.size)
      have HVR9 : Hid (IV w9 (.slice ua rn uc) R) := HVR8.out.below hb9
      have HSM : Hid (Calls Tryd.prog _ _ _ _) := same_one (.slice ga P.length gc) (.slice pa pn pc) P w9 (HVG8.out.below hb9) (HVQ8.out.below hb9) (by rw [← HPN.out]; omega)
      clear hb9 HA8 HVQ8 HVR8 HVG8 HB8
      go_wp2_with fail
      refine HSM.out.mono ?_
      rintro e w10 ⟨rfl, hb10⟩
      have HB10 : Hid (Below w.heap.size w w10) := HB9.out.trans (hb10.mono HB9.out.size)
      have HU10 : Hid (Calls Tryd.prog _ _ _ _) := HUN.out (.slice ua rn uc) R w10 (HVR9.out.below hb10) (by omega) HP6.out.2
      rw [HP12.out.2] at HU10
      clear hb10 HSM HVR9 HB9
      go_wp2_with fail
      refine HU10.out.mono ?_
      rintro e w11 ⟨ra, rc, rfl, -, hb11⟩
      have HB11 : Hid (Below w.heap.size w w11) := HB10.out.trans (hb11.mono HB10.out.size)
      clear hb11 HU10 HB10
      go_wp2
      go_ret
      exact ⟨rfl, HB11.out⟩
end Go.Proofs.YtmjfcneofpddiaaDoor
