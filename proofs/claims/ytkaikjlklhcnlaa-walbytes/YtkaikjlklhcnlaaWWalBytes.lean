/- The walk of WalBytes. (Written by wip/wwb.py.) -/
import Derived.Test.YtkaikjlklhcnlaaWalJ
namespace Go.Proofs.Ytkaikjlklhcnlaa
open Go.RowKit Go.Maps
set_option linter.unusedVariables false
set_option linter.unusedSimpArgs false

theorem strs_len {w : World} {a : Option Addr} {len cap : Nat} {ss : List ByteArray} (h : IsStrs w a len cap ss) : len ≤ 9223372036854775807 := by
  rcases h with ⟨_, h, _, _⟩ | ⟨x, _, h1, h2, _⟩
  · omega
  · unfold maxLen at h2; omega
theorem strs_at {w : World} {a : Option Addr} {len cap : Nat} {ss : List ByteArray} (h : IsStrs w a len cap ss) {i : Nat} (hi : i < len) : ∃ b o, a = some ⟨b, o, none⟩ ∧ len ≤ cap ∧ b < w.heap.size ∧ w.cell? ⟨b, o + i, none⟩ = some (.string (ss.getD i ByteArray.empty)) ∧ (ss.getD i ByteArray.empty).size ≤ 9223372036854775807 := by
  rcases h with ⟨_, h, _, _⟩ | ⟨x, rfl, h1, h2, h3, h4, h5⟩
  · omega
  · have hc := h4 i (by omega)
    obtain ⟨b, o, s⟩ := x
    have hs : s = none := by
      have h0 := h4 0 (by omega)
      cases s with
      | none => rfl
      | some s => unfold World.cell? at h0; split at h0 <;> simp [Addr.add] at h0
    subst hs
    rw [Addr.add_mid] at hc
    refine ⟨b, o, rfl, h1, World.block_lt_of_cell? _ _ hc, hc, ?_⟩
    have hm : ss.getD i ByteArray.empty ∈ ss := by
      rw [List.getD_eq_getElem?_getD, List.getElem?_eq_getElem (by omega)]; exact List.getElem_mem _
    have := h5 _ hm
    unfold maxLen at this; omega
theorem mem_snoc_le {n : Nat} {l : List (List UInt8)} {x : List UInt8} (h : ∀ r ∈ l, r.length ≤ n) (hx : x.length ≤ n) : ∀ r ∈ l ++ [x], r.length ≤ n := by
  intro r hr
  rcases List.mem_append.1 hr with hr | hr
  · exact h r hr
  · rw [List.mem_singleton] at hr; subst hr; exact hx
set_option maxRecDepth 100000 in
set_option maxHeartbeats 4000000 in
theorem lawWalBytes_walk (a0 : Option Addr) (len0 cap0 : Nat) (ss : List ByteArray) (rst : Int) (w : World) (h0 : IsStrs w a0 len0 cap0 ss) (h1 : -9223372036854775808 ≤ rst ∧ rst ≤ 9223372036854775807) :
    Calls Try.prog 8 #[.slice a0 len0 cap0, .int .i64 rst] w fun e w' => e = .returned (.bool true) ∧ Below w.heap.size w w' := by
  have hlen0 := strs_len h0
  have HST : Hid (IsStrs w a0 len0 cap0 ss) := h0
  clear h0
  go_enter Try.func8, Try.ntmps8
  go_wp2_with fail
  refine (start_any 1048576 w (by decide) (by decide)).mono ?_
  rintro e w1 ⟨lb, d, S0, a1, o, rfl, hls, hb1⟩
  have HLS0 : Hid (LS w1 lb d S0 [] a1 [] o 1048576 0 w.heap.size [] false) := hls
  have HK0 : Hid (Keeps (fun k => k < w.heap.size) w w1) := Keeps.of_below hb1 (fun k hk => hk)
  clear hls hb1
  go_wp2
  go_loopw [7, 8] (fun u v wr => ∃ (i : Nat) (rs : List (List UInt8)) (S : DS) (a : Nat), i ≤ len0 ∧ i ≤ 20 ∧ v = .int .i64 (i : Int) ∧ u = .string (mkT (frs rs)) ∧ rs.length ≤ i ∧ (∀ r ∈ rs, r.length ≤ 300) ∧ LS wr lb d S [] a (frs rs) o 1048576 0 w.heap.size rs false ∧ Keeps (fun k => k < w.heap.size) w wr) (fun _ v _ => 20 - (intOf v).toNat)
  case atStart => exact ⟨0, [], S0, a1, Nat.zero_le _, by omega, rfl, rfl, by simp, fun r hr => by (cases hr), HLS0.out, HK0.out⟩
  case round =>
    obtain ⟨i, rs, S, a, hi1, hi2, rfl, rfl, hrl, hr3, hls, hk⟩ := hrel
    have HLS : Hid (LS wr lb d S [] a (frs rs) o 1048576 0 w.heap.size rs false) := hls
    have HK : Hid (Keeps (fun k => k < w.heap.size) w wr) := hk
    have HR3 : Hid (∀ r ∈ rs, r.length ≤ 300) := hr3
    have hfl := frs_bd hr3
    have hfl2 : (frs rs).length ≤ 6160 := Nat.le_trans hfl (by omega)
    clear hls hk hr3 HLS0 HK0 hfl
    by_cases hgo : i < len0 ∧ i < 20
    · obtain ⟨hg1, hg2⟩ := hgo
      have hg1i : (i : Int) < (len0 : Int) := by omega
      have hg2i : (i : Int) < 20 := by omega
      have hi0 : (0 : Int) ≤ (i : Int) := by omega
      obtain ⟨b, oo, rfl, hcl, hbl, hcell0, hXs⟩ := strs_at HST.out hg1
      have hcell : wr.cell? ⟨b, oo + i, none⟩ = _ := (HK.out.cell hbl _).trans hcell0
      clear hcell0
      generalize ss.getD i ByteArray.empty = X0 at *
      have hms := mkT_sz (frs rs)
      generalize hfn : (frs rs).length = fn at *
      have HFN : Hid ((frs rs).length = fn) := hfn
      obtain ⟨XR, hXR⟩ : ∃ XR, XR = mkT (frs rs) := ⟨_, rfl⟩
      have HXR : Hid (XR = mkT (frs rs)) := hXR
      rw [← hXR] at hms
      rw [← hXR]
      clear hXR hfn
      by_cases hbig : 300 < X0.size
      · have hbi : (300 : Int) < (X0.size : Int) := by omega
        have hZs0 := few_size X0 300
        go_wp2_with fail
        generalize X0.extract 0 300 = Z at *
        have hZs : Z.size ≤ 300 := by omega
        clear hZs0 hbi hbig
        have HA : Hid (Calls Try.prog _ _ _ _) := play_add (tn := false) Z.data.toList wr HLS.out (fun r hr => by have := HR3.out r hr; omega) (by omega) (by rw [size_toList]; omega) (by rw [HFN.out, size_toList]; omega)
        rw [show mkT Z.data.toList = Z from mkT_self Z] at HA
        refine HA.out.mono ?_
        rintro e w2 ⟨rfl, ⟨S2, hls2⟩, hk2⟩
        have HLS2 : Hid _ := hls2
        have HK2 : Hid (Keeps (fun k => k < w.heap.size) w w2) := HK.out.trans hk2
        have HF : Hid (Calls Try.prog _ _ _ _) := frame_any Z.data.toList w2 (by rw [size_toList]; omega)
        rw [show mkT Z.data.toList = Z from mkT_self Z] at HF
        clear hls2 hk2 HA
        have hfs : (mkT (frm Z.data.toList)).size = Z.size + 8 := by rw [mkT_sz, frm_len, size_toList]
        have hxf : XR ++ mkT (frm Z.data.toList) = mkT (frs (rs ++ [Z.data.toList])) := by rw [HXR.out, mkT_append, frs_snoc]
        have HR5 : Hid (∀ r ∈ rs ++ [Z.data.toList], r.length ≤ 300) := mem_snoc_le HR3.out (by rw [size_toList]; exact hZs)
        have HRL : Hid ((rs ++ [Z.data.toList]).length ≤ i + 1) := by unfold Hid; rw [List.length_append]; simp; omega
        generalize rs ++ [Z.data.toList] = rs2 at *
        generalize mkT (frm Z.data.toList) = FZ at *
        obtain ⟨Y, hY⟩ : ∃ Y, Y = mkT (frs rs2) := ⟨_, rfl⟩
        have HY : Hid (Y = mkT (frs rs2)) := hY
        rw [← hY] at hxf
        clear hY
        go_wp2_with fail
        refine HF.out.mono ?_
        rintro e w3 ⟨rfl, hb3⟩
        have HLS3 : Hid (LS w3 lb d S2 [] a (frs rs2) o 1048576 0 w.heap.size rs2 false) := HLS2.out.below hb3
        have HK3 : Hid (Keeps (fun k => k < w.heap.size) w w3) := HK2.out.trans (Keeps.of_below hb3 (fun k hk => Nat.lt_of_lt_of_le hk HK2.out.size))
        clear hb3 HF HLS2 HK2
        by_cases hri : (i : Int) = rst
        · have hrb : ((i : Int) == rst) = true := by rw [hri]; simp
          have HRS : Hid (Calls Try.prog _ _ _ _) := play_reset w3 HLS3.out (by have := frs_bd HR5.out; have h2 : (frs rs2).length ≤ 21 * 308 := Nat.le_trans this (Nat.mul_le_mul (by have := HRL.out; omega) (Nat.le_refl _)); omega)
          clear hri
          go_wp2_with fail
          refine HRS.out.mono ?_
          rintro e w4 ⟨rfl, ⟨S4, a4, hls4⟩, hk4⟩
          have HLS4 : Hid (LS w4 lb d S4 [] a4 [] o 1048576 0 w.heap.size [] false) := hls4
          have HK4 : Hid (Keeps (fun k => k < w.heap.size) w w4) := HK3.out.trans hk4
          have HRD0 := play_read w4 hls4
          have HRD : Hid (Calls Try.prog _ _ _ _) := HRD0
          clear hls4 hk4 HRS HRD0
          go_wp2_with fail
          refine HRD.out.mono ?_
          rintro e w5 ⟨rfl, e5⟩
          have e6 := e5.symm
          subst e6
          clear e5 HRD
          have hmt : mkT ([] : List UInt8) = ⟨#[]⟩ := rfl
          rw [hmt]
          go_wp2
          go_roundw
          case rel => exact ⟨i + 1, [], S4, a4, by omega, by omega, by go_num, rfl, by simp, fun r hr => by (cases hr), HLS4.out, HK4.out⟩
          case measure => simp [intOf]; omega
        · have hrb : ((i : Int) == rst) = false := by rw [beq_eq_false_iff_ne]; exact hri
          have HRD0 := play_read w3 HLS3.out
          rw [← show Y = mkT (frs rs2) from HY.out] at HRD0
          have HRD : Hid (Calls Try.prog _ _ _ _) := HRD0
          clear hri HRD0
          go_wp2_with fail
          refine HRD.out.mono ?_
          rintro e w5 ⟨rfl, e5⟩
          have e6 := e5.symm
          subst e6
          clear e5 HRD
          go_wp2
          go_roundw
          case rel => exact ⟨i + 1, rs2, S2, a, by omega, by omega, by go_num, by rw [← HY.out], HRL.out, HR5.out, HLS3.out, HK3.out⟩
          case measure => simp [intOf]; omega
      · have hbi : ¬ (300 : Int) < (X0.size : Int) := by omega
        go_wp2_with fail
        obtain ⟨Z, hZ⟩ : ∃ Z, Z = X0 := ⟨_, rfl⟩
        have hZs : Z.size ≤ 300 := by rw [hZ]; omega
        rw [← hZ]
        clear hbi hbig hZ
        have HA : Hid (Calls Try.prog _ _ _ _) := play_add (tn := false) Z.data.toList wr HLS.out (fun r hr => by have := HR3.out r hr; omega) (by omega) (by rw [size_toList]; omega) (by rw [HFN.out, size_toList]; omega)
        rw [show mkT Z.data.toList = Z from mkT_self Z] at HA
        refine HA.out.mono ?_
        rintro e w2 ⟨rfl, ⟨S2, hls2⟩, hk2⟩
        have HLS2 : Hid _ := hls2
        have HK2 : Hid (Keeps (fun k => k < w.heap.size) w w2) := HK.out.trans hk2
        have HF : Hid (Calls Try.prog _ _ _ _) := frame_any Z.data.toList w2 (by rw [size_toList]; omega)
        rw [show mkT Z.data.toList = Z from mkT_self Z] at HF
        clear hls2 hk2 HA
        have hfs : (mkT (frm Z.data.toList)).size = Z.size + 8 := by rw [mkT_sz, frm_len, size_toList]
        have hxf : XR ++ mkT (frm Z.data.toList) = mkT (frs (rs ++ [Z.data.toList])) := by rw [HXR.out, mkT_append, frs_snoc]
        have HR5 : Hid (∀ r ∈ rs ++ [Z.data.toList], r.length ≤ 300) := mem_snoc_le HR3.out (by rw [size_toList]; exact hZs)
        have HRL : Hid ((rs ++ [Z.data.toList]).length ≤ i + 1) := by unfold Hid; rw [List.length_append]; simp; omega
        generalize rs ++ [Z.data.toList] = rs2 at *
        generalize mkT (frm Z.data.toList) = FZ at *
        obtain ⟨Y, hY⟩ : ∃ Y, Y = mkT (frs rs2) := ⟨_, rfl⟩
        have HY : Hid (Y = mkT (frs rs2)) := hY
        rw [← hY] at hxf
        clear hY
        go_wp2_with fail
        refine HF.out.mono ?_
        rintro e w3 ⟨rfl, hb3⟩
        have HLS3 : Hid (LS w3 lb d S2 [] a (frs rs2) o 1048576 0 w.heap.size rs2 false) := HLS2.out.below hb3
        have HK3 : Hid (Keeps (fun k => k < w.heap.size) w w3) := HK2.out.trans (Keeps.of_below hb3 (fun k hk => Nat.lt_of_lt_of_le hk HK2.out.size))
        clear hb3 HF HLS2 HK2
        by_cases hri : (i : Int) = rst
        · have hrb : ((i : Int) == rst) = true := by rw [hri]; simp
          have HRS : Hid (Calls Try.prog _ _ _ _) := play_reset w3 HLS3.out (by have := frs_bd HR5.out; have h2 : (frs rs2).length ≤ 21 * 308 := Nat.le_trans this (Nat.mul_le_mul (by have := HRL.out; omega) (Nat.le_refl _)); omega)
          clear hri
          go_wp2_with fail
          refine HRS.out.mono ?_
          rintro e w4 ⟨rfl, ⟨S4, a4, hls4⟩, hk4⟩
          have HLS4 : Hid (LS w4 lb d S4 [] a4 [] o 1048576 0 w.heap.size [] false) := hls4
          have HK4 : Hid (Keeps (fun k => k < w.heap.size) w w4) := HK3.out.trans hk4
          have HRD0 := play_read w4 hls4
          have HRD : Hid (Calls Try.prog _ _ _ _) := HRD0
          clear hls4 hk4 HRS HRD0
          go_wp2_with fail
          refine HRD.out.mono ?_
          rintro e w5 ⟨rfl, e5⟩
          have e6 := e5.symm
          subst e6
          clear e5 HRD
          have hmt : mkT ([] : List UInt8) = ⟨#[]⟩ := rfl
          rw [hmt]
          go_wp2
          go_roundw
          case rel => exact ⟨i + 1, [], S4, a4, by omega, by omega, by go_num, rfl, by simp, fun r hr => by (cases hr), HLS4.out, HK4.out⟩
          case measure => simp [intOf]; omega
        · have hrb : ((i : Int) == rst) = false := by rw [beq_eq_false_iff_ne]; exact hri
          have HRD0 := play_read w3 HLS3.out
          rw [← show Y = mkT (frs rs2) from HY.out] at HRD0
          have HRD : Hid (Calls Try.prog _ _ _ _) := HRD0
          clear hri HRD0
          go_wp2_with fail
          refine HRD.out.mono ?_
          rintro e w5 ⟨rfl, e5⟩
          have e6 := e5.symm
          subst e6
          clear e5 HRD
          go_wp2
          go_roundw
          case rel => exact ⟨i + 1, rs2, S2, a, by omega, by omega, by go_num, by rw [← HY.out], HRL.out, HR5.out, HLS3.out, HK3.out⟩
          case measure => simp [intOf]; omega
    · have hend : ¬ ((i : Int) < (len0 : Int) ∧ (i : Int) < 20) := by omega
      have HLI : Hid (Calls Try.prog _ _ _ _) := play_list wr HLS.out
      have hnl : (nms S.now).length = 2 := by
        rw [nms_len, HLS.out.lw.lf.now]; rfl
      have hpw := prs_whole (rs := rs) (fun r hr => by have := HR3.out r hr; omega) (by omega)
      have HPA0 : ∀ W, Calls Try.prog _ _ W _ := fun W => parse_any (frs rs) W (by omega)
      rw [hpw] at HPA0
      have HPA : Hid (∀ W, Calls Try.prog _ _ W _) := HPA0
      clear HPA0 hpw
      have hms := mkT_sz (frs rs)
      generalize (frs rs).length = fn at *
      generalize mkT (frs rs) = XR at *
      by_cases hq1 : i < len0
      · have hq2 : ¬ (i : Int) < 20 := by omega
        have hq1i : (i : Int) < (len0 : Int) := by omega
        go_wp2_with fail
        refine HLI.out.mono ?_
        rintro e w2 ⟨v2, rfl, hO2, hb2⟩
        obtain ⟨a2, c2, rfl⟩ := hO2.shape
        rw [hnl]
        have HLS2 : Hid (LS w2 lb d S [] a (frs rs) o 1048576 0 w.heap.size rs false) := HLS.out.below hb2
        have HK2 : Hid (Keeps (fun k => k < w.heap.size) w w2) := HK.out.trans (Keeps.of_below hb2 (fun k hk => Nat.lt_of_lt_of_le hk HK.out.size))
        clear hO2 hb2 HLI hnl
        go_wp2_with fail
        refine (HPA.out _).mono ?_
        rintro e w3 ⟨v3, rfl, hO3, hb3⟩
        obtain ⟨a3, c3, rfl⟩ := hO3.shape
        have HLS3 : Hid (LS w3 lb d S [] a (frs rs) o 1048576 0 w.heap.size rs false) := HLS2.out.below hb3
        have HK3 : Hid (Keeps (fun k => k < w.heap.size) w w3) := HK2.out.trans (Keeps.of_below hb3 (fun k hk => Nat.lt_of_lt_of_le hk HK2.out.size))
        clear hO3 hb3 HPA HLS2 HK2
        go_wp2_with fail
        refine (awake15_any w3).mono ?_
        rintro e w4 ⟨rfl, hb4⟩
        have HLS4 : Hid (LS w4 lb d S [] a (frs rs) o 1048576 0 w.heap.size rs false) := HLS3.out.below hb4
        have HK4 : Hid (Keeps (fun k => k < w.heap.size) w w4) := HK3.out.trans (Keeps.of_below hb4 (fun k hk => Nat.lt_of_lt_of_le hk HK3.out.size))
        have HRC : Hid (Calls Try.prog _ _ _ _) := play_recs w4 HLS4.out (by omega)
        clear hb4 HLS3 HK3
        go_wp2_with fail
        refine HRC.out.mono ?_
        rintro e w5 ⟨v5, rfl, hO5, hb5⟩
        obtain ⟨a5, c5, rfl⟩ := hO5.shape
        have HK5 : Hid (Keeps (fun k => k < w.heap.size) w w5) := HK4.out.trans (Keeps.of_below hb5 (fun k hk => Nat.lt_of_lt_of_le hk HK4.out.size))
        clear hO5 hb5 HRC
        go_wp2
        go_ret
        exact ⟨rfl, HK5.out.below⟩
      · have hq1i : ¬ (i : Int) < (len0 : Int) := by omega
        go_wp2_with fail
        refine HLI.out.mono ?_
        rintro e w2 ⟨v2, rfl, hO2, hb2⟩
        obtain ⟨a2, c2, rfl⟩ := hO2.shape
        rw [hnl]
        have HLS2 : Hid (LS w2 lb d S [] a (frs rs) o 1048576 0 w.heap.size rs false) := HLS.out.below hb2
        have HK2 : Hid (Keeps (fun k => k < w.heap.size) w w2) := HK.out.trans (Keeps.of_below hb2 (fun k hk => Nat.lt_of_lt_of_le hk HK.out.size))
        clear hO2 hb2 HLI hnl
        go_wp2_with fail
        refine (HPA.out _).mono ?_
        rintro e w3 ⟨v3, rfl, hO3, hb3⟩
        obtain ⟨a3, c3, rfl⟩ := hO3.shape
        have HLS3 : Hid (LS w3 lb d S [] a (frs rs) o 1048576 0 w.heap.size rs false) := HLS2.out.below hb3
        have HK3 : Hid (Keeps (fun k => k < w.heap.size) w w3) := HK2.out.trans (Keeps.of_below hb3 (fun k hk => Nat.lt_of_lt_of_le hk HK2.out.size))
        clear hO3 hb3 HPA HLS2 HK2
        go_wp2_with fail
        refine (awake15_any w3).mono ?_
        rintro e w4 ⟨rfl, hb4⟩
        have HLS4 : Hid (LS w4 lb d S [] a (frs rs) o 1048576 0 w.heap.size rs false) := HLS3.out.below hb4
        have HK4 : Hid (Keeps (fun k => k < w.heap.size) w w4) := HK3.out.trans (Keeps.of_below hb4 (fun k hk => Nat.lt_of_lt_of_le hk HK3.out.size))
        have HRC : Hid (Calls Try.prog _ _ _ _) := play_recs w4 HLS4.out (by omega)
        clear hb4 HLS3 HK3
        go_wp2_with fail
        refine HRC.out.mono ?_
        rintro e w5 ⟨v5, rfl, hO5, hb5⟩
        obtain ⟨a5, c5, rfl⟩ := hO5.shape
        have HK5 : Hid (Keeps (fun k => k < w.heap.size) w w5) := HK4.out.trans (Keeps.of_below hb5 (fun k hk => Nat.lt_of_lt_of_le hk HK4.out.size))
        clear hO5 hb5 HRC
        go_wp2
        go_ret
        exact ⟨rfl, HK5.out.below⟩
end Go.Proofs.Ytkaikjlklhcnlaa
