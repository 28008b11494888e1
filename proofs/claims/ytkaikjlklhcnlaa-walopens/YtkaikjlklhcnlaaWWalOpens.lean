/- The walk of WalOpens. (Written by wip/wwo.py.) -/
import Derived.Test.YtkaikjlklhcnlaaWalV
import Derived.Test.YtkaikjlklhcnlaaStrG
import Derived.Test.YtkaikjlklhcnlaaDskP
import Derived.ProofKit
namespace Go.Proofs.Ytkaikjlklhcnlaa
open Go.RowKit Go.Maps
set_option linter.unusedVariables false
set_option linter.unusedSimpArgs false

theorem strs_len {w : World} {a : Option Addr} {len cap : Nat} {ss : List ByteArray} (h : IsStrs w a len cap ss) : len ≤ 9223372036854775807 := by
  rcases h with ⟨_, h, _, _⟩ | ⟨x, _, h1, h2, _⟩
  · omega
  · unfold maxLen at h2; omega
theorem strs_at {w : World} {a : Option Addr} {len cap : Nat} {ss : List ByteArray} (h : IsStrs w a len cap ss) {i : Nat} (hi : i < len) : ∃ b o, a = some ⟨b, o, none⟩ ∧ len ≤ cap ∧ b < w.heap.size ∧ w.cell? ⟨b, o + i, none⟩ = some (.string (ss.getD i ByteArray.empty)) ∧ (ss.getD i ByteArray.empty).size ≤ 9223372036854775807 := by
  rcases h with ⟨_, h, _, _⟩ | ⟨x, rfl, h1, h2, h3, h4, h5⟩
  · omega
  · have hc := h4 i (by omega)
    obtain ⟨b, o, s⟩ := x
    have hs : s = none := by
      have h0 := h4 0 (by omega)
      cases s with
      | none => rfl
      | some s => unfold World.cell? at h0; split at h0 <;> simp [Addr.add] at h0
    subst hs
    rw [Addr.add_mid] at hc
    refine ⟨b, o, rfl, h1, World.block_lt_of_cell? _ _ hc, hc, ?_⟩
    have hm : ss.getD i ByteArray.empty ∈ ss := by
      rw [List.getD_eq_getElem?_getD, List.getElem?_eq_getElem (by omega)]; exact List.getElem_mem _
    have := h5 _ hm
    unfold maxLen at this; omega
theorem mem_snoc_le {n : Nat} {l : List (List UInt8)} {x : List UInt8} (h : ∀ r ∈ l, r.length ≤ n) (hx : x.length ≤ n) : ∀ r ∈ l ++ [x], r.length ≤ n := by
  intro r hr
  rcases List.mem_append.1 hr with hr | hr
  · exact h r hr
  · rw [List.mem_singleton] at hr; subst hr; exact hx
theorem row_at {w : World} {a : Option Addr} {len cap : Nat} {zs : List Int} (h : IsRow .i64 w a len cap zs) {i : Nat} (hi : i < len) : ∃ b o, a = some ⟨b, o, none⟩ ∧ len ≤ cap ∧ b < w.heap.size ∧ w.cell? ⟨b, o + i, none⟩ = some (.int .i64 (zs.getD i 0)) ∧ -9223372036854775808 ≤ zs.getD i 0 ∧ zs.getD i 0 ≤ 9223372036854775807 := by
  rcases h with ⟨_, h, _, _⟩ | ⟨x, rfl, h1, h2, h3, h4, h5⟩
  · omega
  · have hc := h4 i (by omega)
    obtain ⟨b, o, s⟩ := x
    have hs : s = none := by
      have h0 : w.cell? ⟨b, o, s⟩ = some _ := h4 0 (by omega)
      cases s with
      | none => rfl
      | some s => unfold World.cell? at h0; split at h0 <;> simp at h0
    subst hs
    rw [Addr.add_mid] at hc
    have hm : zs.getD i 0 ∈ zs := by
      rw [List.getD_eq_getElem?_getD, List.getElem?_eq_getElem (by omega)]; exact List.getElem_mem _
    have hb := bounds_i64 (h5 _ hm)
    exact ⟨b, o, rfl, h1, World.block_lt_of_cell? _ _ hc, hc, hb.1, hb.2⟩
theorem row_len {w : World} {a : Option Addr} {len cap : Nat} {zs : List Int} (h : IsRow .i64 w a len cap zs) : len ≤ 9223372036854775807 := by
  rcases h with ⟨_, h, _, _⟩ | ⟨x, rfl, h1, h2, h3, h4, h5⟩ <;> omega
def lastL : List UInt8 := [108, 97, 115, 116]
set_option maxRecDepth 100000 in
set_option maxHeartbeats 32000000 in
theorem lawWalOpens_walk (a0 : Option Addr) (len0 cap0 : Nat) (ss : List ByteArray) (torn : ByteArray) (a2 : Option Addr) (len2 cap2 : Nat) (zs : List Int) (a3 : Option Addr) (len3 cap3 : Nat) (zk : List Int) (w : World) (h0 : IsStrs w a0 len0 cap0 ss) (h1 : torn.size ≤ 140737488351232) (h2 : IsRow .i64 w a2 len2 cap2 zs) (h3 : IsRow .i64 w a3 len3 cap3 zk) :
    Calls Try.prog 6 #[.slice a0 len0 cap0, .string torn, .slice a2 len2 cap2, .slice a3 len3 cap3] w fun e w' => e = .returned (.bool true) ∧ Below w.heap.size w w' := by
  obtain ⟨hks, hkb⟩ := h3.ksl
  have HKS : Hid (KSl w (.slice a3 len3 cap3) (zk.take len3)) := hks
  have HKB : Hid (0 < (zk.take len3).length → ∀ r, (Value.slice a3 len3 cap3).ownBlock = some r → r < w.heap.size) := hkb
  clear h3 hks hkb
  generalize zk.take len3 = ks at *
  have hlen0 := strs_len h0
  have hlen2 := row_len h2
  have HST : Hid (IsStrs w a0 len0 cap0 ss) := h0
  have HRO : Hid (IsRow .i64 w a2 len2 cap2 zs) := h2
  clear h0 h2
  go_enter Try.func6, Try.ntmps6
  go_wp2_with fail
  refine (start_any' 1048576 w (by decide) (by decide)).mono ?_
  rintro e w1 ⟨lb, d, S0, aa, o, rfl, hls, hb1, hvb⟩
  have HK1 : Hid (Keeps (fun k => k < w.heap.size) w w1) := Keeps.of_below hb1 (fun k hk => hk)
  have hba : Below w1.heap.size w1 (w1.alloc (.cells #[] 9)) := (Below.refl _ _).alloc (Nat.le_refl _) _
  have HL1 : Hid (LH (w1.alloc (.cells #[] 9)) lb d S0 (fun k => k < w.heap.size ∨ (Value.slice (some ⟨w1.heap.size, 0, none⟩) 0 0).ownBlock = some k) [] false) := ((hls.lh hvb).more hba).less (fun k hk => by
    rcases hk with hk | hk
    · exact .inl hk
    · cases hk; exact .inr ⟨Nat.le_refl _, by simp⟩)
  have HW1 : Hid (OS (w1.alloc (.cells #[] 9)) w.heap.size (.slice (some ⟨w1.heap.size, 0, none⟩) 0 0) []) := (OS.empty w1).mono HK1.out.size
  have HLV : Hid (LV S0 aa (frs []) (frs []).length o 1048576) := hls.lw.lv
  have HKA : Hid (Keeps (fun k => k < w.heap.size) w (w1.alloc (.cells #[] 9))) := HK1.out.trans (Keeps.of_below hba (fun k hk => Nat.lt_of_lt_of_le hk HK1.out.size))
  clear hls hb1 hba hvb
  go_wp2
  go_loopw [11, 12] (fun v11 v12 wr => ∃ (i : Nat) (rs : List (List UInt8)) (S : DS) (a : Nat), i ≤ len0 ∧ i ≤ 20 ∧ v12 = .int .i64 (i : Int) ∧ rs.length ≤ i ∧ (∀ r ∈ rs, r.length ≤ 300) ∧ LH wr lb d S (fun k => k < w.heap.size ∨ v11.ownBlock = some k) rs false ∧ OS wr w.heap.size v11 rs ∧ LV S a (frs rs) (frs rs).length o 1048576 ∧ Keeps (fun k => k < w.heap.size) w wr) (fun _ v _ => 20 - (intOf v).toNat)
  case atStart => exact ⟨0, [], S0, aa, Nat.zero_le _, by omega, rfl, by simp, fun r hr => (by cases hr), HL1.out, HW1.out, HLV.out, HKA.out⟩
  case round =>
    obtain ⟨i, rs, S, a, hi1, hi2, rfl, hrl, hr3, hlh, how, hlv, hk⟩ := hrel
    obtain ⟨ua, uc, rfl⟩ := how.shape
    have HLr : Hid (LH wr lb d S (fun k => k < w.heap.size ∨ (Value.slice ua rs.length uc).ownBlock = some k) rs false) := hlh
    have HWr : Hid (OS wr w.heap.size (.slice ua rs.length uc) rs) := how
    have HVr : Hid (LV S a (frs rs) (frs rs).length o 1048576) := hlv
    have HK : Hid (Keeps (fun k => k < w.heap.size) w wr) := hk
    have HR3 : Hid (∀ r ∈ rs, r.length ≤ 300) := hr3
    have hfl := frs_bd hr3
    have hfl2 : (frs rs).length ≤ 6160 := Nat.le_trans hfl (Nat.mul_le_mul (by omega : rs.length ≤ 20) (Nat.le_refl _))
    clear hlh how hlv hk hr3 HL1 HW1 HLV HKA HK1 hfl
    by_cases hgo : i < len0 ∧ i < 20
    · obtain ⟨hg1, hg2⟩ := hgo
      have hg1i : (i : Int) < (len0 : Int) := by omega
      have hg2i : (i : Int) < 20 := by omega
      have hi0 : (0 : Int) ≤ (i : Int) := by omega
      obtain ⟨b, oo, rfl, hcl, hbl, hcell0, hXs⟩ := strs_at HST.out hg1
      have hcell : wr.cell? ⟨b, oo + i, none⟩ = _ := (HK.out.cell hbl _).trans hcell0
      clear hcell0
      generalize ss.getD i ByteArray.empty = X0 at *
      by_cases hbig : 300 < X0.size
      · have hbi : (300 : Int) < (X0.size : Int) := by omega
        have hZs0 := few_size X0 300
        go_wp2_with fail
        generalize X0.extract 0 300 = Z at *
        have hZs : Z.size ≤ 300 := by omega
        clear hZs0 hbi hbig
        obtain ⟨zl, hzl⟩ : ∃ zl, zl = Z.data.toList := ⟨_, rfl⟩
        have hZe : Z = mkT zl := by rw [hzl, mkT_self]
        have hzl3 : zl.length ≤ 300 := by rw [hzl, size_toList]; exact hZs
        subst hZe
        clear hzl
        have HA : Hid (Calls Try.prog _ _ _ _) := vadd (t := []) zl wr HLr.out (by rw [List.append_nil]; exact HVr.out) (Nat.le_refl _) (fun r hr => by have := HR3.out r hr; omega) (by omega) (.inl rfl) (by omega) (by simp; omega)
        refine HA.out.mono ?_
        rintro e w2 ⟨rfl, ⟨S2, aB, hl2, hv2⟩, hk2⟩
        have HL2 : Hid (LH w2 lb d S2 (fun k => k < w.heap.size ∨ (Value.slice ua rs.length uc).ownBlock = some k) (rs ++ [zl]) false) := hl2
        have HV2 : Hid (LV S2 aB (frs (rs ++ [zl])) (frs (rs ++ [zl])).length o 1048576) := hv2
        have HO2 : Hid (OS w2 w.heap.size (.slice ua rs.length uc) rs) := own_kept HWr.out (fun r hr => hk2.block r (.inr hr))
        have HK2 : Hid (Keeps (fun k => k < w.heap.size) w w2) := HK.out.trans (hk2.mono (fun k hk => .inl hk))
        have hsz2 : w.heap.size ≤ w2.heap.size := HK2.out.size
        clear hl2 hv2 hk2 HA
        go_wp2_with (at_builtin; refine append_one rfl _ _ rfl w.heap.size (.slice ua rs.length uc) rs zl rfl rfl HO2.out (by omega) hsz2 ?_; intro va c' w3 hO3 hg3 hr3)
        have HL3 : Hid (LH w3 lb d S2 (fun k => k < w.heap.size ∨ (Value.slice va (rs.length + 1) c').ownBlock = some k) (rs ++ [zl]) false) := (HL2.out.grown hg3 (fun r hr => .inr hr)).less (fun k hk => by
          rcases hk with hk | hk
          · exact .inl (.inl hk)
          · rcases hr3 k hk with h | h
            · exact .inl (.inr h)
            · exact .inr h)
        have HO3 : Hid (OS w3 w.heap.size (.slice va (rs.length + 1) c') (rs ++ [zl])) := hO3
        have HK3 : Hid (Keeps (fun k => k < w.heap.size) w w3) := HK2.out.grown hg3 (fun k hk => Nat.lt_of_lt_of_le hk HK2.out.size) (fun k hk hn => by have := (HO2.out.lt k hk).1; omega)
        clear hO3 hg3 hr3
        go_wp2
        go_roundw
        case rel => exact ⟨i + 1, rs ++ [zl], S2, aB, by omega, by omega, by go_num, by simp; omega, mem_snoc_le HR3.out hzl3, HL3.out, HO3.out, HV2.out, HK3.out⟩
        case measure => simp [intOf]; omega
      · have hbi : ¬ (300 : Int) < (X0.size : Int) := by omega
        go_wp2_with fail
        obtain ⟨Z, hZ⟩ : ∃ Z, Z = X0 := ⟨_, rfl⟩
        have hZs : Z.size ≤ 300 := by rw [hZ]; omega
        rw [← hZ]
        clear hbi hbig hZ
        obtain ⟨zl, hzl⟩ : ∃ zl, zl = Z.data.toList := ⟨_, rfl⟩
        have hZe : Z = mkT zl := by rw [hzl, mkT_self]
        have hzl3 : zl.length ≤ 300 := by rw [hzl, size_toList]; exact hZs
        subst hZe
        clear hzl
        have HA : Hid (Calls Try.prog _ _ _ _) := vadd (t := []) zl wr HLr.out (by rw [List.append_nil]; exact HVr.out) (Nat.le_refl _) (fun r hr => by have := HR3.out r hr; omega) (by omega) (.inl rfl) (by omega) (by simp; omega)
        refine HA.out.mono ?_
        rintro e w2 ⟨rfl, ⟨S2, aB, hl2, hv2⟩, hk2⟩
        have HL2 : Hid (LH w2 lb d S2 (fun k => k < w.heap.size ∨ (Value.slice ua rs.length uc).ownBlock = some k) (rs ++ [zl]) false) := hl2
        have HV2 : Hid (LV S2 aB (frs (rs ++ [zl])) (frs (rs ++ [zl])).length o 1048576) := hv2
        have HO2 : Hid (OS w2 w.heap.size (.slice ua rs.length uc) rs) := own_kept HWr.out (fun r hr => hk2.block r (.inr hr))
        have HK2 : Hid (Keeps (fun k => k < w.heap.size) w w2) := HK.out.trans (hk2.mono (fun k hk => .inl hk))
        have hsz2 : w.heap.size ≤ w2.heap.size := HK2.out.size
        clear hl2 hv2 hk2 HA
        go_wp2_with (at_builtin; refine append_one rfl _ _ rfl w.heap.size (.slice ua rs.length uc) rs zl rfl rfl HO2.out (by omega) hsz2 ?_; intro va c' w3 hO3 hg3 hr3)
        have HL3 : Hid (LH w3 lb d S2 (fun k => k < w.heap.size ∨ (Value.slice va (rs.length + 1) c').ownBlock = some k) (rs ++ [zl]) false) := (HL2.out.grown hg3 (fun r hr => .inr hr)).less (fun k hk => by
          rcases hk with hk | hk
          · exact .inl (.inl hk)
          · rcases hr3 k hk with h | h
            · exact .inl (.inr h)
            · exact .inr h)
        have HO3 : Hid (OS w3 w.heap.size (.slice va (rs.length + 1) c') (rs ++ [zl])) := hO3
        have HK3 : Hid (Keeps (fun k => k < w.heap.size) w w3) := HK2.out.grown hg3 (fun k hk => Nat.lt_of_lt_of_le hk HK2.out.size) (fun k hk hn => by have := (HO2.out.lt k hk).1; omega)
        clear hO3 hg3 hr3
        go_wp2
        go_roundw
        case rel => exact ⟨i + 1, rs ++ [zl], S2, aB, by omega, by omega, by go_num, by simp; omega, mem_snoc_le HR3.out hzl3, HL3.out, HO3.out, HV2.out, HK3.out⟩
        case measure => simp [intOf]; omega
    · by_cases hq1 : i < len0
      · have hq2 : ¬ (i : Int) < 20 := by omega
        have hq1i : (i : Int) < (len0 : Int) := by omega
        by_cases htb : 300 < torn.size
        · have htbi : (300 : Int) < (torn.size : Int) := by omega
          have hTs0 := few_size torn 300
          go_wp2_with fail
          generalize torn.extract 0 300 = TR at *
          have hTs : TR.size ≤ 300 := by omega
          clear hTs0 htbi htb
          obtain ⟨tr, htr⟩ : ∃ tr, tr = TR.data.toList := ⟨_, rfl⟩
          have hTe : TR = mkT tr := by rw [htr, mkT_self]
          have htr3 : tr.length ≤ 300 := by rw [htr, size_toList]; exact hTs
          subst hTe
          clear htr
          have hTsz : (mkT tr).size = tr.length := mkT_sz tr
          have HFR : Hid (Calls Try.prog _ _ _ _) := frame_any tr wr (by omega)
          refine HFR.out.mono ?_
          rintro e u1 ⟨rfl, hb⟩
          have HL1 : Hid (LH u1 lb d S (fun k => k < w.heap.size ∨ (Value.slice ua rs.length uc).ownBlock = some k) rs false) := HLr.out.below hb
          have HO1 : Hid (OS u1 w.heap.size (.slice ua rs.length uc) rs) := HWr.out.below hb
          have HK1 : Hid (Keeps (fun k => k < w.heap.size) w u1) := HK.out.trans (Keeps.of_below hb (fun k hk => Nat.lt_of_lt_of_le hk HK.out.size))
          have hFsz : (mkT (frm tr)).size = tr.length + 8 := by rw [mkT_sz, frm_len]
          have hFx : (mkT (frm tr)).extract 0 (tr.length + 7) = mkT ((frm tr).take (tr.length + 7)) := by rw [mkT_cut]; simp
          have HXL : Hid (((frm tr).take (tr.length + 7)).length = tr.length + 7) := by unfold Hid; rw [List.length_take, frm_len]; omega
          have HAP : Hid (Calls Try.prog _ _ _ _) := vappend ((frm tr).take (tr.length + 7)) u1 HL1.out HVr.out (by rw [HXL.out]; omega) (by rw [HXL.out]; omega)
          have HTP : Hid (TornP tr ((frm tr).take (tr.length + 7))) := ⟨tr.length + 7, by omega, rfl⟩
          clear hb HFR HLr HWr HK
          rw [← hFx] at HAP
          generalize hfr : mkT (frm tr) = FT at *
          clear hfr
          obtain ⟨m, hm⟩ : ∃ m, m = tr.length := ⟨_, rfl⟩
          rw [← hm] at hTsz hFsz HAP
          have hm3 : m ≤ 300 := by omega
          have hm7 : ((m : Int) + 8 - 1) = ((m + 7 : Nat) : Int) := by omega
          have HMT : Hid (m = tr.length) := hm
          clear hm hFx
          go_wp2_with fail
          refine HAP.out.mono ?_
          rintro e u2 ⟨rfl, ⟨S2, hl, hv⟩, hk⟩
          have HL2 : Hid (LH u2 lb d S2 (fun k => k < w.heap.size ∨ (Value.slice ua rs.length uc).ownBlock = some k) rs false) := hl
          have HV2 : Hid (LV S2 a (frs rs ++ (frm tr).take (tr.length + 7)) (frs rs).length o 1048576) := by unfold Hid; rw [← HMT.out]; exact hv
          have HO2 : Hid (OS u2 w.heap.size (.slice ua rs.length uc) rs) := own_kept HO1.out (fun r hr => hk.block r (.inr hr))
          have HK2 : Hid (Keeps (fun k => k < w.heap.size) w u2) := HK1.out.trans (hk.mono (fun k hk => .inl hk))
          clear hl hv hk HAP HL1 HO1 HK1
          go_wp2
          go_loopw [15] (fun v15 wr => ∃ (i : Nat) (S : DS) (k lb : Nat) (t : List UInt8) (tn : Bool), i ≤ len2 ∧ i ≤ 10 ∧ v15 = .int .i64 (i : Int) ∧ TornP tr t ∧ (frs rs).length ≤ k ∧ LH wr lb d S (fun k => k < w.heap.size ∨ (Value.slice ua rs.length uc).ownBlock = some k) rs tn ∧ OS wr w.heap.size (.slice ua rs.length uc) rs ∧ LV S a (frs rs ++ t) k o 1048576 ∧ Keeps (fun k => k < w.heap.size) w wr) (fun v _ => 10 - (intOf v).toNat)
          case atStart => exact ⟨0, S2, (frs rs).length, lb, _, false, Nat.zero_le _, by omega, rfl, HTP.out, Nat.le_refl _, HL2.out, HO2.out, HV2.out, HK2.out⟩
          case round =>
            obtain ⟨ii, S9, k9, lb9, t, tn9, hii1, hii2, rfl, htp, hkk, hlh, how, hlv, hk⟩ := hrel
            have HL9 : Hid (LH wr lb9 d S9 (fun k => k < w.heap.size ∨ (Value.slice ua rs.length uc).ownBlock = some k) rs tn9) := hlh
            have HO9 : Hid (OS wr w.heap.size (.slice ua rs.length uc) rs) := how
            have HV9 : Hid (LV S9 a (frs rs ++ t) k9 o 1048576) := hlv
            have HK9 : Hid (Keeps (fun k => k < w.heap.size) w wr) := hk
            have HTP9 : Hid (TornP tr t) := htp
            have HKK9 : Hid ((frs rs).length ≤ k9) := hkk
            clear hlh how hlv hk htp hkk HL2 HO2 HV2 HK2 HTP
            by_cases hgo2 : ii < len2 ∧ ii < 10
            · obtain ⟨hg1, hg2⟩ := hgo2
              have hg1i : (ii : Int) < (len2 : Int) := by omega
              have hg2i : (ii : Int) < 10 := by omega
              have hii0 : (0 : Int) ≤ (ii : Int) := by omega
              obtain ⟨b2, o2, rfl, hcl2, hbl2, hcell0, hz0, hz1⟩ := row_at HRO.out hg1
              have hcell2 : wr.cell? ⟨b2, o2 + ii, none⟩ = _ := (HK9.out.cell hbl2 _).trans hcell0
              clear hcell0
              generalize zs.getD ii 0 = arm at *
              have HAR : Hid (Calls Try.prog _ _ _ _) := harm arm wr HL9.out hz0 hz1
              go_wp2_with fail
              refine HAR.out.mono ?_
              rintro e u3 ⟨rfl, hl, hk⟩
              have HLa : Hid (LH u3 lb9 d { S9 with left := arm } (fun k => k < w.heap.size ∨ (Value.slice ua rs.length uc).ownBlock = some k) rs tn9) := hl
              have HOa : Hid (OS u3 w.heap.size (.slice ua rs.length uc) rs) := own_kept HO9.out (fun r hr => hk.block r (.inr hr))
              have HKa : Hid (Keeps (fun k => k < w.heap.size) w u3) := HK9.out.trans (hk.mono (fun k hk => .inl hk))
              have HOP : Hid (Calls Try.prog _ _ _ _) := hopen2 (t := t) u3 hl HV9.out.rd.1 HV9.out.rd.2 (fun r hr => by have := HR3.out r hr; omega) (by omega) (HTP9.out.b (by omega))
              clear hl hk HAR HL9 HO9 HK9
              go_wp2_with fail
              refine HOP.out.mono ?_
              rintro e u4 ⟨lb2, rfl, hl, _, hb⟩
              have HLb : Hid (LH u4 lb2 d { S9 with left := arm } (fun k => k < w.heap.size ∨ (Value.slice ua rs.length uc).ownBlock = some k) rs (decide (0 < t.length))) := hl
              have HOb : Hid (OS u4 w.heap.size (.slice ua rs.length uc) rs) := HOa.out.below hb
              have HKb : Hid (Keeps (fun k => k < w.heap.size) w u4) := HKa.out.trans (Keeps.of_below hb (fun k hk => Nat.lt_of_lt_of_le hk HKa.out.size))
              have HSM0 := hsame u4 hl ⟨HOb.out.mono (Nat.zero_le _), fun r hr => .inr hr⟩ (by omega) (by omega)
              rw [decide_eq_true rfl] at HSM0
              have HSM : Hid (Calls Try.prog _ _ _ _) := HSM0
              clear hl hb HOP HSM0 HLa HOa HKa
              go_wp2_with fail
              refine HSM.out.mono ?_
              rintro e u5 ⟨rfl, hb⟩
              have HLc : Hid (LH u5 lb2 d { S9 with left := arm } (fun k => k < w.heap.size ∨ (Value.slice ua rs.length uc).ownBlock = some k) rs (decide (0 < t.length))) := HLb.out.below hb
              have HOc : Hid (OS u5 w.heap.size (.slice ua rs.length uc) rs) := HOb.out.below hb
              have HKc : Hid (Keeps (fun k => k < w.heap.size) w u5) := HKb.out.trans (Keeps.of_below hb (fun k hk => Nat.lt_of_lt_of_le hk HKb.out.size))
              have HAR : Hid (Calls Try.prog _ _ _ _) := harm (-1) u5 HLc.out (by decide) (by decide)
              clear hb HSM HLb HOb HKb
              go_wp2_with fail
              refine HAR.out.mono ?_
              rintro e u6 ⟨rfl, hl, hk⟩
              have HOd : Hid (OS u6 w.heap.size (.slice ua rs.length uc) rs) := own_kept HOc.out (fun r hr => hk.block r (.inr hr))
              have HKd : Hid (Keeps (fun k => k < w.heap.size) w u6) := HKc.out.trans (hk.mono (fun k hk => .inl hk))
              have HCR : Hid (Calls Try.prog _ _ _ _) := hcrash ks (.slice a3 len3 cap3) u6 hl (HKS.out.keeps HKd.out HKB.out) (fun h r hr => .inl (HKB.out h r hr)) (by have := HV9.out.lens; show S9.sure.length + S9.steps.length ≤ _; omega)
              rw [crS_left, crS_left] at HCR
              clear hl hk HAR HLc HOc HKc
              obtain ⟨t', k', htp', hkk', hlv'⟩ := HV9.out.tcrash HTP9.out HKK9.out ks
              have HV' : Hid (LV (crS S9 ks) a (frs rs ++ t') k' o 1048576) := hlv'
              have HT' : Hid (TornP tr t' ∧ (frs rs).length ≤ k') := ⟨htp', hkk'⟩
              clear htp' hkk' hlv' HV9 HTP9 HKK9
              go_wp2_with fail
              refine HCR.out.mono ?_
              rintro e u7 ⟨rfl, hl, hk⟩
              have HLe : Hid (LH u7 lb2 d (crS S9 ks) (fun k => k < w.heap.size ∨ (Value.slice ua rs.length uc).ownBlock = some k) rs (decide (0 < t.length))) := hl
              have HOe : Hid (OS u7 w.heap.size (.slice ua rs.length uc) rs) := own_kept HOd.out (fun r hr => hk.block r (.inr hr))
              have HKe : Hid (Keeps (fun k => k < w.heap.size) w u7) := HKd.out.trans (hk.mono (fun k hk => .inl hk))
              clear hl hk HCR HOd HKd
              go_wp2
              go_roundw
              case rel => exact ⟨ii + 1, crS S9 ks, k', lb2, t', _, by omega, by omega, by go_num, HT'.out.1, HT'.out.2, HLe.out, HOe.out, HV'.out, HKe.out⟩
              case measure => simp [intOf]; omega
            · by_cases hq3 : ii < len2
              · have hq3i : (ii : Int) < (len2 : Int) := by omega
                have hq4i : ¬ (ii : Int) < 10 := by omega
                have HOP : Hid (Calls Try.prog _ _ _ _) := hopen2 (t := t) wr HL9.out HV9.out.rd.1 HV9.out.rd.2 (fun r hr => by have := HR3.out r hr; omega) (by omega) (HTP9.out.b (by omega))
                go_wp2_with fail
                refine HOP.out.mono ?_
                rintro e u2 ⟨lb2, rfl, hl, _, hb⟩
                have HLa : Hid (LH u2 lb2 d S9 (fun k => k < w.heap.size ∨ (Value.slice ua rs.length uc).ownBlock = some k) rs (decide (0 < t.length))) := hl
                have HOa : Hid (OS u2 w.heap.size (.slice ua rs.length uc) rs) := HO9.out.below hb
                have HKa : Hid (Keeps (fun k => k < w.heap.size) w u2) := HK9.out.trans (Keeps.of_below hb (fun k hk => Nat.lt_of_lt_of_le hk HK9.out.size))
                have HSM0 := hsame u2 hl ⟨HOa.out.mono (Nat.zero_le _), fun r hr => .inr hr⟩ (by omega) (by omega)
                rw [decide_eq_true rfl] at HSM0
                have HSM : Hid (Calls Try.prog _ _ _ _) := HSM0
                clear hl hb HOP HSM0 HL9 HO9 HK9
                go_wp2_with fail
                refine HSM.out.mono ?_
                rintro e u3 ⟨rfl, hb⟩
                have HLb : Hid (LH u3 lb2 d S9 (fun k => k < w.heap.size ∨ (Value.slice ua rs.length uc).ownBlock = some k) rs (decide (0 < t.length))) := HLa.out.below hb
                have HOb : Hid (OS u3 w.heap.size (.slice ua rs.length uc) rs) := HOa.out.below hb
                have HKb : Hid (Keeps (fun k => k < w.heap.size) w u3) := HKa.out.trans (Keeps.of_below hb (fun k hk => Nat.lt_of_lt_of_le hk HKa.out.size))
                have HOT : Hid (Calls Try.prog _ _ _ _) := vothers u3 HLb.out HV9.out
                clear hb HSM HLa HOa HKa
                go_wp2_with fail
                refine HOT.out.mono ?_
                rintro e u4 ⟨rfl, hb⟩
                have HLc : Hid (LH u4 lb2 d S9 (fun k => k < w.heap.size ∨ (Value.slice ua rs.length uc).ownBlock = some k) rs (decide (0 < t.length))) := HLb.out.below hb
                have HOc : Hid (OS u4 w.heap.size (.slice ua rs.length uc) rs) := HOb.out.below hb
                have HKc : Hid (Keeps (fun k => k < w.heap.size) w u4) := HKb.out.trans (Keeps.of_below hb (fun k hk => Nat.lt_of_lt_of_le hk HKb.out.size))
                have HAD : Hid (Calls Try.prog _ _ _ _) := vadd (t := t) lastL u4 HLc.out HV9.out HKK9.out (fun r hr => by have := HR3.out r hr; omega) (by omega) (HTP9.out.b (by omega)) (by decide) (by have h9 := HTP9.out.len; have h8 : lastL.length = 4 := rfl; omega)
                clear hb HOT HLb HOb HKb
                go_wp2_with fail
                refine HAD.out.mono ?_
                rintro e u5 ⟨rfl, ⟨S5, a5, hl, hv⟩, hk⟩
                have HLd : Hid (LH u5 lb2 d S5 (fun k => k < w.heap.size ∨ (Value.slice ua rs.length uc).ownBlock = some k) (rs ++ [lastL]) false) := hl
                have HVd : Hid (LV S5 a5 (frs (rs ++ [lastL])) (frs (rs ++ [lastL])).length o 1048576) := hv
                have HOd : Hid (OS u5 w.heap.size (.slice ua rs.length uc) rs) := own_kept HOc.out (fun r hr => hk.block r (.inr hr))
                have HKd : Hid (Keeps (fun k => k < w.heap.size) w u5) := HKc.out.trans (hk.mono (fun k hk => .inl hk))
                have HTO : Hid (Calls Try.prog _ _ _ _) := vtorn u5 hl
                have HRD : Hid (Calls Try.prog _ _ _ _) := vread u5 hl hv
                clear hl hv hk HAD HLc HOc HKc
                go_wp2_with fail
                refine HTO.out.mono ?_
                rintro e u6 ⟨rfl, e6⟩
                have e7 := e6.symm
                subst e7
                clear e6 HTO
                go_wp2_with fail
                refine HRD.out.mono ?_
                rintro e u6 ⟨rfl, e6⟩
                have e7 := e6.symm
                subst e7
                clear e6 HRD
                have h52 : ∀ r ∈ rs ++ [lastL], r.length ≤ 5000 := mem_snoc_le (fun r hr => by have := HR3.out r hr; omega) (by decide)
                have hl52 : (rs ++ [lastL]).length ≤ 200 := by simp; omega
                have hpw := prs_whole h52 hl52
                have hfb2 : (frs (rs ++ [lastL])).length ≤ 20000 := by rw [frs_snoc, List.length_append, frm_len]; have h8 : lastL.length = 4 := rfl; omega
                have HPA0 := parse_any (frs (rs ++ [lastL])) u5 (by omega)
                rw [hpw] at HPA0
                have HPA : Hid (Calls Try.prog _ _ _ _) := HPA0
                have hms := mkT_sz (frs (rs ++ [lastL]))
                have H52 : Hid (∀ r ∈ rs ++ [lastL], r.length ≤ 5000) := h52
                have hrs1 : (rs ++ [lastL]).length = rs.length + 1 := by simp
                clear HPA0 hpw h52
                obtain ⟨rs2, hrs2⟩ : ∃ rs2, rs2 = rs ++ [lastL] := ⟨_, rfl⟩
                have HRS2 : Hid (rs2 = rs ++ [lastL]) := hrs2
                rw [← hrs2] at HPA hms H52 HVd HLd hl52 hfb2 hrs1
                rw [← hrs2]
                clear hrs2
                obtain ⟨fn, hfn⟩ : ∃ fn, fn = (frs rs2).length := ⟨_, rfl⟩
                obtain ⟨TX, hTX⟩ : ∃ TX, TX = mkT (frs rs2) := ⟨_, rfl⟩
                have HVe : Hid (LV S5 a5 (frs rs2 ++ []) fn o 1048576) := by unfold Hid; rw [List.append_nil, hfn]; exact HVd.out
                rw [← hfn] at HPA hms hfb2
                rw [← hTX] at HPA hms
                rw [← hTX]
                clear hTX hfn HVd
                go_wp2_with fail
                refine HPA.out.mono ?_
                rintro e u6 ⟨v6, rfl, hO6, hb⟩
                obtain ⟨a6, c6, rfl⟩ := hO6.shape
                rw [hrs1]
                have HLe : Hid (LH u6 lb2 d S5 (fun k => k < w.heap.size ∨ (Value.slice ua rs.length uc).ownBlock = some k) rs2 false) := HLd.out.below hb
                have HOe : Hid (OS u6 w.heap.size (.slice ua rs.length uc) rs) := HOd.out.below hb
                have HKe : Hid (Keeps (fun k => k < w.heap.size) w u6) := HKd.out.trans (Keeps.of_below hb (fun k hk => Nat.lt_of_lt_of_le hk HKd.out.size))
                have HOP2 : Hid (Calls Try.prog _ _ _ _) := hopen2 (t := []) u6 HLe.out HVe.out.rd.1 HVe.out.rd.2 H52.out hl52 (.inl rfl)
                clear hO6 hb HPA HLd HOd HKd
                go_wp2_with fail
                refine HOP2.out.mono ?_
                rintro e u7 ⟨lb7, rfl, hl, _, hb⟩
                have HLf : Hid (LH u7 lb7 d S5 (fun k => k < w.heap.size ∨ (Value.slice ua rs.length uc).ownBlock = some k) rs2 false) := hl
                have HOf : Hid (OS u7 w.heap.size (.slice ua rs.length uc) rs) := HOe.out.below hb
                have HKf : Hid (Keeps (fun k => k < w.heap.size) w u7) := HKe.out.trans (Keeps.of_below hb (fun k hk => Nat.lt_of_lt_of_le hk HKe.out.size))
                clear hl hb HOP2 HLe HOe HKe
                go_wp2_with fail
                refine (awake15_any u7).mono ?_
                rintro e u8 ⟨rfl, hb⟩
                have HLg : Hid (LH u8 lb7 d S5 (fun k => k < w.heap.size ∨ (Value.slice ua rs.length uc).ownBlock = some k) rs2 false) := HLf.out.below hb
                have HOg : Hid (OS u8 w.heap.size (.slice ua rs.length uc) rs) := HOf.out.below hb
                have HKg : Hid (Keeps (fun k => k < w.heap.size) w u8) := HKf.out.trans (Keeps.of_below hb (fun k hk => Nat.lt_of_lt_of_le hk HKf.out.size))
                have HTO : Hid (Calls Try.prog _ _ _ _) := vtorn u8 HLg.out
                have hsz8 : w.heap.size ≤ u8.heap.size := HKg.out.size
                clear hb HLf HOf HKf
                go_wp2_with fail
                refine HTO.out.mono ?_
                rintro e u9 ⟨rfl, e6⟩
                have e7 := e6.symm
                subst e7
                clear e6 HTO
                go_wp2_with (at_builtin; refine append_one_g (by rfl) _ _ rfl w.heap.size (.slice ua rs.length uc) rs lastL rfl rfl HOg.out (by omega) hsz8 ?_; intro va c' u10 hO10 hg10 hr10; have HLh : Hid (LH u10 lb7 d S5 (fun k => k < w.heap.size ∨ (Value.slice va (rs.length + 1) c').ownBlock = some k) rs2 false) := (HLg.out.grown hg10 (fun r hr => .inr hr)).less (fun k hk => by
                  rcases hk with hk | hk
                  · exact .inl (.inl hk)
                  · rcases hr10 k hk with h | h
                    · exact .inl (.inr h)
                    · exact .inr h); have HKh : Hid (Keeps (fun k => k < w.heap.size) w u10) := HKg.out.grown hg10 (fun k hk => Nat.lt_of_lt_of_le hk HKg.out.size) (fun k hk hn => by have := (HOg.out.lt k hk).1; omega); have HSN0 := hsame u10 HLh.out (u := .slice va (rs.length + 1) c') (want := rs2) ⟨by rw [HRS2.out]; exact hO10.mono (Nat.zero_le _), fun r hr => .inr hr⟩ (by omega) (by omega); rw [decide_eq_true rfl] at HSN0; have HSN : Hid (Calls Try.prog _ _ _ _) := HSN0; clear hO10 hg10 hr10 HSN0; go_wp2_with fail)
                refine HSN.out.mono ?_
                rintro e u11 ⟨rfl, hb⟩
                have HKi : Hid (Keeps (fun k => k < w.heap.size) w u11) := HKh.out.trans (Keeps.of_below hb (fun k hk => Nat.lt_of_lt_of_le hk HKh.out.size))
                clear hb HSN
                go_wp2
                go_ret
                exact ⟨rfl, HKi.out.below⟩
              · have hq3i : ¬ (ii : Int) < (len2 : Int) := by omega
                have HOP : Hid (Calls Try.prog _ _ _ _) := hopen2 (t := t) wr HL9.out HV9.out.rd.1 HV9.out.rd.2 (fun r hr => by have := HR3.out r hr; omega) (by omega) (HTP9.out.b (by omega))
                go_wp2_with fail
                refine HOP.out.mono ?_
                rintro e u2 ⟨lb2, rfl, hl, _, hb⟩
                have HLa : Hid (LH u2 lb2 d S9 (fun k => k < w.heap.size ∨ (Value.slice ua rs.length uc).ownBlock = some k) rs (decide (0 < t.length))) := hl
                have HOa : Hid (OS u2 w.heap.size (.slice ua rs.length uc) rs) := HO9.out.below hb
                have HKa : Hid (Keeps (fun k => k < w.heap.size) w u2) := HK9.out.trans (Keeps.of_below hb (fun k hk => Nat.lt_of_lt_of_le hk HK9.out.size))
                have HSM0 := hsame u2 hl ⟨HOa.out.mono (Nat.zero_le _), fun r hr => .inr hr⟩ (by omega) (by omega)
                rw [decide_eq_true rfl] at HSM0
                have HSM : Hid (Calls Try.prog _ _ _ _) := HSM0
                clear hl hb HOP HSM0 HL9 HO9 HK9
                go_wp2_with fail
                refine HSM.out.mono ?_
                rintro e u3 ⟨rfl, hb⟩
                have HLb : Hid (LH u3 lb2 d S9 (fun k => k < w.heap.size ∨ (Value.slice ua rs.length uc).ownBlock = some k) rs (decide (0 < t.length))) := HLa.out.below hb
                have HOb : Hid (OS u3 w.heap.size (.slice ua rs.length uc) rs) := HOa.out.below hb
                have HKb : Hid (Keeps (fun k => k < w.heap.size) w u3) := HKa.out.trans (Keeps.of_below hb (fun k hk => Nat.lt_of_lt_of_le hk HKa.out.size))
                have HOT : Hid (Calls Try.prog _ _ _ _) := vothers u3 HLb.out HV9.out
                clear hb HSM HLa HOa HKa
                go_wp2_with fail
                refine HOT.out.mono ?_
                rintro e u4 ⟨rfl, hb⟩
                have HLc : Hid (LH u4 lb2 d S9 (fun k => k < w.heap.size ∨ (Value.slice ua rs.length uc).ownBlock = some k) rs (decide (0 < t.length))) := HLb.out.below hb
                have HOc : Hid (OS u4 w.heap.size (.slice ua rs.length uc) rs) := HOb.out.below hb
                have HKc : Hid (Keeps (fun k => k < w.heap.size) w u4) := HKb.out.trans (Keeps.of_below hb (fun k hk => Nat.lt_of_lt_of_le hk HKb.out.size))
                have HAD : Hid (Calls Try.prog _ _ _ _) := vadd (t := t) lastL u4 HLc.out HV9.out HKK9.out (fun r hr => by have := HR3.out r hr; omega) (by omega) (HTP9.out.b (by omega)) (by decide) (by have h9 := HTP9.out.len; have h8 : lastL.length = 4 := rfl; omega)
                clear hb HOT HLb HOb HKb
                go_wp2_with fail
                refine HAD.out.mono ?_
                rintro e u5 ⟨rfl, ⟨S5, a5, hl, hv⟩, hk⟩
                have HLd : Hid (LH u5 lb2 d S5 (fun k => k < w.heap.size ∨ (Value.slice ua rs.length uc).ownBlock = some k) (rs ++ [lastL]) false) := hl
                have HVd : Hid (LV S5 a5 (frs (rs ++ [lastL])) (frs (rs ++ [lastL])).length o 1048576) := hv
                have HOd : Hid (OS u5 w.heap.size (.slice ua rs.length uc) rs) := own_kept HOc.out (fun r hr => hk.block r (.inr hr))
                have HKd : Hid (Keeps (fun k => k < w.heap.size) w u5) := HKc.out.trans (hk.mono (fun k hk => .inl hk))
                have HTO : Hid (Calls Try.prog _ _ _ _) := vtorn u5 hl
                have HRD : Hid (Calls Try.prog _ _ _ _) := vread u5 hl hv
                clear hl hv hk HAD HLc HOc HKc
                go_wp2_with fail
                refine HTO.out.mono ?_
                rintro e u6 ⟨rfl, e6⟩
                have e7 := e6.symm
                subst e7
                clear e6 HTO
                go_wp2_with fail
                refine HRD.out.mono ?_
                rintro e u6 ⟨rfl, e6⟩
                have e7 := e6.symm
                subst e7
                clear e6 HRD
                have h52 : ∀ r ∈ rs ++ [lastL], r.length ≤ 5000 := mem_snoc_le (fun r hr => by have := HR3.out r hr; omega) (by decide)
                have hl52 : (rs ++ [lastL]).length ≤ 200 := by simp; omega
                have hpw := prs_whole h52 hl52
                have hfb2 : (frs (rs ++ [lastL])).length ≤ 20000 := by rw [frs_snoc, List.length_append, frm_len]; have h8 : lastL.length = 4 := rfl; omega
                have HPA0 := parse_any (frs (rs ++ [lastL])) u5 (by omega)
                rw [hpw] at HPA0
                have HPA : Hid (Calls Try.prog _ _ _ _) := HPA0
                have hms := mkT_sz (frs (rs ++ [lastL]))
                have H52 : Hid (∀ r ∈ rs ++ [lastL], r.length ≤ 5000) := h52
                have hrs1 : (rs ++ [lastL]).length = rs.length + 1 := by simp
                clear HPA0 hpw h52
                obtain ⟨rs2, hrs2⟩ : ∃ rs2, rs2 = rs ++ [lastL] := ⟨_, rfl⟩
                have HRS2 : Hid (rs2 = rs ++ [lastL]) := hrs2
                rw [← hrs2] at HPA hms H52 HVd HLd hl52 hfb2 hrs1
                rw [← hrs2]
                clear hrs2
                obtain ⟨fn, hfn⟩ : ∃ fn, fn = (frs rs2).length := ⟨_, rfl⟩
                obtain ⟨TX, hTX⟩ : ∃ TX, TX = mkT (frs rs2) := ⟨_, rfl⟩
                have HVe : Hid (LV S5 a5 (frs rs2 ++ []) fn o 1048576) := by unfold Hid; rw [List.append_nil, hfn]; exact HVd.out
                rw [← hfn] at HPA hms hfb2
                rw [← hTX] at HPA hms
                rw [← hTX]
                clear hTX hfn HVd
                go_wp2_with fail
                refine HPA.out.mono ?_
                rintro e u6 ⟨v6, rfl, hO6, hb⟩
                obtain ⟨a6, c6, rfl⟩ := hO6.shape
                rw [hrs1]
                have HLe : Hid (LH u6 lb2 d S5 (fun k => k < w.heap.size ∨ (Value.slice ua rs.length uc).ownBlock = some k) rs2 false) := HLd.out.below hb
                have HOe : Hid (OS u6 w.heap.size (.slice ua rs.length uc) rs) := HOd.out.below hb
                have HKe : Hid (Keeps (fun k => k < w.heap.size) w u6) := HKd.out.trans (Keeps.of_below hb (fun k hk => Nat.lt_of_lt_of_le hk HKd.out.size))
                have HOP2 : Hid (Calls Try.prog _ _ _ _) := hopen2 (t := []) u6 HLe.out HVe.out.rd.1 HVe.out.rd.2 H52.out hl52 (.inl rfl)
                clear hO6 hb HPA HLd HOd HKd
                go_wp2_with fail
                refine HOP2.out.mono ?_
                rintro e u7 ⟨lb7, rfl, hl, _, hb⟩
                have HLf : Hid (LH u7 lb7 d S5 (fun k => k < w.heap.size ∨ (Value.slice ua rs.length uc).ownBlock = some k) rs2 false) := hl
                have HOf : Hid (OS u7 w.heap.size (.slice ua rs.length uc) rs) := HOe.out.below hb
                have HKf : Hid (Keeps (fun k => k < w.heap.size) w u7) := HKe.out.trans (Keeps.of_below hb (fun k hk => Nat.lt_of_lt_of_le hk HKe.out.size))
                clear hl hb HOP2 HLe HOe HKe
                go_wp2_with fail
                refine (awake15_any u7).mono ?_
                rintro e u8 ⟨rfl, hb⟩
                have HLg : Hid (LH u8 lb7 d S5 (fun k => k < w.heap.size ∨ (Value.slice ua rs.length uc).ownBlock = some k) rs2 false) := HLf.out.below hb
                have HOg : Hid (OS u8 w.heap.size (.slice ua rs.length uc) rs) := HOf.out.below hb
                have HKg : Hid (Keeps (fun k => k < w.heap.size) w u8) := HKf.out.trans (Keeps.of_below hb (fun k hk => Nat.lt_of_lt_of_le hk HKf.out.size))
                have HTO : Hid (Calls Try.prog _ _ _ _) := vtorn u8 HLg.out
                have hsz8 : w.heap.size ≤ u8.heap.size := HKg.out.size
                clear hb HLf HOf HKf
                go_wp2_with fail
                refine HTO.out.mono ?_
                rintro e u9 ⟨rfl, e6⟩
                have e7 := e6.symm
                subst e7
                clear e6 HTO
                go_wp2_with (at_builtin; refine append_one_g (by rfl) _ _ rfl w.heap.size (.slice ua rs.length uc) rs lastL rfl rfl HOg.out (by omega) hsz8 ?_; intro va c' u10 hO10 hg10 hr10; have HLh : Hid (LH u10 lb7 d S5 (fun k => k < w.heap.size ∨ (Value.slice va (rs.length + 1) c').ownBlock = some k) rs2 false) := (HLg.out.grown hg10 (fun r hr => .inr hr)).less (fun k hk => by
                  rcases hk with hk | hk
                  · exact .inl (.inl hk)
                  · rcases hr10 k hk with h | h
                    · exact .inl (.inr h)
                    · exact .inr h); have HKh : Hid (Keeps (fun k => k < w.heap.size) w u10) := HKg.out.grown hg10 (fun k hk => Nat.lt_of_lt_of_le hk HKg.out.size) (fun k hk hn => by have := (HOg.out.lt k hk).1; omega); have HSN0 := hsame u10 HLh.out (u := .slice va (rs.length + 1) c') (want := rs2) ⟨by rw [HRS2.out]; exact hO10.mono (Nat.zero_le _), fun r hr => .inr hr⟩ (by omega) (by omega); rw [decide_eq_true rfl] at HSN0; have HSN : Hid (Calls Try.prog _ _ _ _) := HSN0; clear hO10 hg10 hr10 HSN0; go_wp2_with fail)
                refine HSN.out.mono ?_
                rintro e u11 ⟨rfl, hb⟩
                have HKi : Hid (Keeps (fun k => k < w.heap.size) w u11) := HKh.out.trans (Keeps.of_below hb (fun k hk => Nat.lt_of_lt_of_le hk HKh.out.size))
                clear hb HSN
                go_wp2
                go_ret
                exact ⟨rfl, HKi.out.below⟩
        · have htbi : ¬ (300 : Int) < (torn.size : Int) := by omega
          go_wp2_with fail
          obtain ⟨TR, hTR⟩ : ∃ TR, TR = torn := ⟨_, rfl⟩
          have hTs : TR.size ≤ 300 := by rw [hTR]; omega
          rw [← hTR]
          clear htbi htb hTR
          obtain ⟨tr, htr⟩ : ∃ tr, tr = TR.data.toList := ⟨_, rfl⟩
          have hTe : TR = mkT tr := by rw [htr, mkT_self]
          have htr3 : tr.length ≤ 300 := by rw [htr, size_toList]; exact hTs
          subst hTe
          clear htr
          have hTsz : (mkT tr).size = tr.length := mkT_sz tr
          have HFR : Hid (Calls Try.prog _ _ _ _) := frame_any tr wr (by omega)
          refine HFR.out.mono ?_
          rintro e u1 ⟨rfl, hb⟩
          have HL1 : Hid (LH u1 lb d S (fun k => k < w.heap.size ∨ (Value.slice ua rs.length uc).ownBlock = some k) rs false) := HLr.out.below hb
          have HO1 : Hid (OS u1 w.heap.size (.slice ua rs.length uc) rs) := HWr.out.below hb
          have HK1 : Hid (Keeps (fun k => k < w.heap.size) w u1) := HK.out.trans (Keeps.of_below hb (fun k hk => Nat.lt_of_lt_of_le hk HK.out.size))
          have hFsz : (mkT (frm tr)).size = tr.length + 8 := by rw [mkT_sz, frm_len]
          have hFx : (mkT (frm tr)).extract 0 (tr.length + 7) = mkT ((frm tr).take (tr.length + 7)) := by rw [mkT_cut]; simp
          have HXL : Hid (((frm tr).take (tr.length + 7)).length = tr.length + 7) := by unfold Hid; rw [List.length_take, frm_len]; omega
          have HAP : Hid (Calls Try.prog _ _ _ _) := vappend ((frm tr).take (tr.length + 7)) u1 HL1.out HVr.out (by rw [HXL.out]; omega) (by rw [HXL.out]; omega)
          have HTP : Hid (TornP tr ((frm tr).take (tr.length + 7))) := ⟨tr.length + 7, by omega, rfl⟩
          clear hb HFR HLr HWr HK
          rw [← hFx] at HAP
          generalize hfr : mkT (frm tr) = FT at *
          clear hfr
          obtain ⟨m, hm⟩ : ∃ m, m = tr.length := ⟨_, rfl⟩
          rw [← hm] at hTsz hFsz HAP
          have hm3 : m ≤ 300 := by omega
          have hm7 : ((m : Int) + 8 - 1) = ((m + 7 : Nat) : Int) := by omega
          have HMT : Hid (m = tr.length) := hm
          clear hm hFx
          go_wp2_with fail
          refine HAP.out.mono ?_
          rintro e u2 ⟨rfl, ⟨S2, hl, hv⟩, hk⟩
          have HL2 : Hid (LH u2 lb d S2 (fun k => k < w.heap.size ∨ (Value.slice ua rs.length uc).ownBlock = some k) rs false) := hl
          have HV2 : Hid (LV S2 a (frs rs ++ (frm tr).take (tr.length + 7)) (frs rs).length o 1048576) := by unfold Hid; rw [← HMT.out]; exact hv
          have HO2 : Hid (OS u2 w.heap.size (.slice ua rs.length uc) rs) := own_kept HO1.out (fun r hr => hk.block r (.inr hr))
          have HK2 : Hid (Keeps (fun k => k < w.heap.size) w u2) := HK1.out.trans (hk.mono (fun k hk => .inl hk))
          clear hl hv hk HAP HL1 HO1 HK1
          go_wp2
          go_loopw [15] (fun v15 wr => ∃ (i : Nat) (S : DS) (k lb : Nat) (t : List UInt8) (tn : Bool), i ≤ len2 ∧ i ≤ 10 ∧ v15 = .int .i64 (i : Int) ∧ TornP tr t ∧ (frs rs).length ≤ k ∧ LH wr lb d S (fun k => k < w.heap.size ∨ (Value.slice ua rs.length uc).ownBlock = some k) rs tn ∧ OS wr w.heap.size (.slice ua rs.length uc) rs ∧ LV S a (frs rs ++ t) k o 1048576 ∧ Keeps (fun k => k < w.heap.size) w wr) (fun v _ => 10 - (intOf v).toNat)
          case atStart => exact ⟨0, S2, (frs rs).length, lb, _, false, Nat.zero_le _, by omega, rfl, HTP.out, Nat.le_refl _, HL2.out, HO2.out, HV2.out, HK2.out⟩
          case round =>
            obtain ⟨ii, S9, k9, lb9, t, tn9, hii1, hii2, rfl, htp, hkk, hlh, how, hlv, hk⟩ := hrel
            have HL9 : Hid (LH wr lb9 d S9 (fun k => k < w.heap.size ∨ (Value.slice ua rs.length uc).ownBlock = some k) rs tn9) := hlh
            have HO9 : Hid (OS wr w.heap.size (.slice ua rs.length uc) rs) := how
            have HV9 : Hid (LV S9 a (frs rs ++ t) k9 o 1048576) := hlv
            have HK9 : Hid (Keeps (fun k => k < w.heap.size) w wr) := hk
            have HTP9 : Hid (TornP tr t) := htp
            have HKK9 : Hid ((frs rs).length ≤ k9) := hkk
            clear hlh how hlv hk htp hkk HL2 HO2 HV2 HK2 HTP
            by_cases hgo2 : ii < len2 ∧ ii < 10
            · obtain ⟨hg1, hg2⟩ := hgo2
              have hg1i : (ii : Int) < (len2 : Int) := by omega
              have hg2i : (ii : Int) < 10 := by omega
              have hii0 : (0 : Int) ≤ (ii : Int) := by omega
              obtain ⟨b2, o2, rfl, hcl2, hbl2, hcell0, hz0, hz1⟩ := row_at HRO.out hg1
              have hcell2 : wr.cell? ⟨b2, o2 + ii, none⟩ = _ := (HK9.out.cell hbl2 _).trans hcell0
              clear hcell0
              generalize zs.getD ii 0 = arm at *
              have HAR : Hid (Calls Try.prog _ _ _ _) := harm arm wr HL9.out hz0 hz1
              go_wp2_with fail
              refine HAR.out.mono ?_
              rintro e u3 ⟨rfl, hl, hk⟩
              have HLa : Hid (LH u3 lb9 d { S9 with left := arm } (fun k => k < w.heap.size ∨ (Value.slice ua rs.length uc).ownBlock = some k) rs tn9) := hl
              have HOa : Hid (OS u3 w.heap.size (.slice ua rs.length uc) rs) := own_kept HO9.out (fun r hr => hk.block r (.inr hr))
              have HKa : Hid (Keeps (fun k => k < w.heap.size) w u3) := HK9.out.trans (hk.mono (fun k hk => .inl hk))
              have HOP : Hid (Calls Try.prog _ _ _ _) := hopen2 (t := t) u3 hl HV9.out.rd.1 HV9.out.rd.2 (fun r hr => by have := HR3.out r hr; omega) (by omega) (HTP9.out.b (by omega))
              clear hl hk HAR HL9 HO9 HK9
              go_wp2_with fail
              refine HOP.out.mono ?_
              rintro e u4 ⟨lb2, rfl, hl, _, hb⟩
              have HLb : Hid (LH u4 lb2 d { S9 with left := arm } (fun k => k < w.heap.size ∨ (Value.slice ua rs.length uc).ownBlock = some k) rs (decide (0 < t.length))) := hl
              have HOb : Hid (OS u4 w.heap.size (.slice ua rs.length uc) rs) := HOa.out.below hb
              have HKb : Hid (Keeps (fun k => k < w.heap.size) w u4) := HKa.out.trans (Keeps.of_below hb (fun k hk => Nat.lt_of_lt_of_le hk HKa.out.size))
              have HSM0 := hsame u4 hl ⟨HOb.out.mono (Nat.zero_le _), fun r hr => .inr hr⟩ (by omega) (by omega)
              rw [decide_eq_true rfl] at HSM0
              have HSM : Hid (Calls Try.prog _ _ _ _) := HSM0
              clear hl hb HOP HSM0 HLa HOa HKa
              go_wp2_with fail
              refine HSM.out.mono ?_
              rintro e u5 ⟨rfl, hb⟩
              have HLc : Hid (LH u5 lb2 d { S9 with left := arm } (fun k => k < w.heap.size ∨ (Value.slice ua rs.length uc).ownBlock = some k) rs (decide (0 < t.length))) := HLb.out.below hb
              have HOc : Hid (OS u5 w.heap.size (.slice ua rs.length uc) rs) := HOb.out.below hb
              have HKc : Hid (Keeps (fun k => k < w.heap.size) w u5) := HKb.out.trans (Keeps.of_below hb (fun k hk => Nat.lt_of_lt_of_le hk HKb.out.size))
              have HAR : Hid (Calls Try.prog _ _ _ _) := harm (-1) u5 HLc.out (by decide) (by decide)
              clear hb HSM HLb HOb HKb
              go_wp2_with fail
              refine HAR.out.mono ?_
              rintro e u6 ⟨rfl, hl, hk⟩
              have HOd : Hid (OS u6 w.heap.size (.slice ua rs.length uc) rs) := own_kept HOc.out (fun r hr => hk.block r (.inr hr))
              have HKd : Hid (Keeps (fun k => k < w.heap.size) w u6) := HKc.out.trans (hk.mono (fun k hk => .inl hk))
              have HCR : Hid (Calls Try.prog _ _ _ _) := hcrash ks (.slice a3 len3 cap3) u6 hl (HKS.out.keeps HKd.out HKB.out) (fun h r hr => .inl (HKB.out h r hr)) (by have := HV9.out.lens; show S9.sure.length + S9.steps.length ≤ _; omega)
              rw [crS_left, crS_left] at HCR
              clear hl hk HAR HLc HOc HKc
              obtain ⟨t', k', htp', hkk', hlv'⟩ := HV9.out.tcrash HTP9.out HKK9.out ks
              have HV' : Hid (LV (crS S9 ks) a (frs rs ++ t') k' o 1048576) := hlv'
              have HT' : Hid (TornP tr t' ∧ (frs rs).length ≤ k') := ⟨htp', hkk'⟩
              clear htp' hkk' hlv' HV9 HTP9 HKK9
              go_wp2_with fail
              refine HCR.out.mono ?_
              rintro e u7 ⟨rfl, hl, hk⟩
              have HLe : Hid (LH u7 lb2 d (crS S9 ks) (fun k => k < w.heap.size ∨ (Value.slice ua rs.length uc).ownBlock = some k) rs (decide (0 < t.length))) := hl
              have HOe : Hid (OS u7 w.heap.size (.slice ua rs.length uc) rs) := own_kept HOd.out (fun r hr => hk.block r (.inr hr))
              have HKe : Hid (Keeps (fun k => k < w.heap.size) w u7) := HKd.out.trans (hk.mono (fun k hk => .inl hk))
              clear hl hk HCR HOd HKd
              go_wp2
              go_roundw
              case rel => exact ⟨ii + 1, crS S9 ks, k', lb2, t', _, by omega, by omega, by go_num, HT'.out.1, HT'.out.2, HLe.out, HOe.out, HV'.out, HKe.out⟩
              case measure => simp [intOf]; omega
            · by_cases hq3 : ii < len2
              · have hq3i : (ii : Int) < (len2 : Int) := by omega
                have hq4i : ¬ (ii : Int) < 10 := by omega
                have HOP : Hid (Calls Try.prog _ _ _ _) := hopen2 (t := t) wr HL9.out HV9.out.rd.1 HV9.out.rd.2 (fun r hr => by have := HR3.out r hr; omega) (by omega) (HTP9.out.b (by omega))
                go_wp2_with fail
                refine HOP.out.mono ?_
                rintro e u2 ⟨lb2, rfl, hl, _, hb⟩
                have HLa : Hid (LH u2 lb2 d S9 (fun k => k < w.heap.size ∨ (Value.slice ua rs.length uc).ownBlock = some k) rs (decide (0 < t.length))) := hl
                have HOa : Hid (OS u2 w.heap.size (.slice ua rs.length uc) rs) := HO9.out.below hb
                have HKa : Hid (Keeps (fun k => k < w.heap.size) w u2) := HK9.out.trans (Keeps.of_below hb (fun k hk => Nat.lt_of_lt_of_le hk HK9.out.size))
                have HSM0 := hsame u2 hl ⟨HOa.out.mono (Nat.zero_le _), fun r hr => .inr hr⟩ (by omega) (by omega)
                rw [decide_eq_true rfl] at HSM0
                have HSM : Hid (Calls Try.prog _ _ _ _) := HSM0
                clear hl hb HOP HSM0 HL9 HO9 HK9
                go_wp2_with fail
                refine HSM.out.mono ?_
                rintro e u3 ⟨rfl, hb⟩
                have HLb : Hid (LH u3 lb2 d S9 (fun k => k < w.heap.size ∨ (Value.slice ua rs.length uc).ownBlock = some k) rs (decide (0 < t.length))) := HLa.out.below hb
                have HOb : Hid (OS u3 w.heap.size (.slice ua rs.length uc) rs) := HOa.out.below hb
                have HKb : Hid (Keeps (fun k => k < w.heap.size) w u3) := HKa.out.trans (Keeps.of_below hb (fun k hk => Nat.lt_of_lt_of_le hk HKa.out.size))
                have HOT : Hid (Calls Try.prog _ _ _ _) := vothers u3 HLb.out HV9.out
                clear hb HSM HLa HOa HKa
                go_wp2_with fail
                refine HOT.out.mono ?_
                rintro e u4 ⟨rfl, hb⟩
                have HLc : Hid (LH u4 lb2 d S9 (fun k => k < w.heap.size ∨ (Value.slice ua rs.length uc).ownBlock = some k) rs (decide (0 < t.length))) := HLb.out.below hb
                have HOc : Hid (OS u4 w.heap.size (.slice ua rs.length uc) rs) := HOb.out.below hb
                have HKc : Hid (Keeps (fun k => k < w.heap.size) w u4) := HKb.out.trans (Keeps.of_below hb (fun k hk => Nat.lt_of_lt_of_le hk HKb.out.size))
                have HAD : Hid (Calls Try.prog _ _ _ _) := vadd (t := t) lastL u4 HLc.out HV9.out HKK9.out (fun r hr => by have := HR3.out r hr; omega) (by omega) (HTP9.out.b (by omega)) (by decide) (by have h9 := HTP9.out.len; have h8 : lastL.length = 4 := rfl; omega)
                clear hb HOT HLb HOb HKb
                go_wp2_with fail
                refine HAD.out.mono ?_
                rintro e u5 ⟨rfl, ⟨S5, a5, hl, hv⟩, hk⟩
                have HLd : Hid (LH u5 lb2 d S5 (fun k => k < w.heap.size ∨ (Value.slice ua rs.length uc).ownBlock = some k) (rs ++ [lastL]) false) := hl
                have HVd : Hid (LV S5 a5 (frs (rs ++ [lastL])) (frs (rs ++ [lastL])).length o 1048576) := hv
                have HOd : Hid (OS u5 w.heap.size (.slice ua rs.length uc) rs) := own_kept HOc.out (fun r hr => hk.block r (.inr hr))
                have HKd : Hid (Keeps (fun k => k < w.heap.size) w u5) := HKc.out.trans (hk.mono (fun k hk => .inl hk))
                have HTO : Hid (Calls Try.prog _ _ _ _) := vtorn u5 hl
                have HRD : Hid (Calls Try.prog _ _ _ _) := vread u5 hl hv
                clear hl hv hk HAD HLc HOc HKc
                go_wp2_with fail
                refine HTO.out.mono ?_
                rintro e u6 ⟨rfl, e6⟩
                have e7 := e6.symm
                subst e7
                clear e6 HTO
                go_wp2_with fail
                refine HRD.out.mono ?_
                rintro e u6 ⟨rfl, e6⟩
                have e7 := e6.symm
                subst e7
                clear e6 HRD
                have h52 : ∀ r ∈ rs ++ [lastL], r.length ≤ 5000 := mem_snoc_le (fun r hr => by have := HR3.out r hr; omega) (by decide)
                have hl52 : (rs ++ [lastL]).length ≤ 200 := by simp; omega
                have hpw := prs_whole h52 hl52
                have hfb2 : (frs (rs ++ [lastL])).length ≤ 20000 := by rw [frs_snoc, List.length_append, frm_len]; have h8 : lastL.length = 4 := rfl; omega
                have HPA0 := parse_any (frs (rs ++ [lastL])) u5 (by omega)
                rw [hpw] at HPA0
                have HPA : Hid (Calls Try.prog _ _ _ _) := HPA0
                have hms := mkT_sz (frs (rs ++ [lastL]))
                have H52 : Hid (∀ r ∈ rs ++ [lastL], r.length ≤ 5000) := h52
                have hrs1 : (rs ++ [lastL]).length = rs.length + 1 := by simp
                clear HPA0 hpw h52
                obtain ⟨rs2, hrs2⟩ : ∃ rs2, rs2 = rs ++ [lastL] := ⟨_, rfl⟩
                have HRS2 : Hid (rs2 = rs ++ [lastL]) := hrs2
                rw [← hrs2] at HPA hms H52 HVd HLd hl52 hfb2 hrs1
                rw [← hrs2]
                clear hrs2
                obtain ⟨fn, hfn⟩ : ∃ fn, fn = (frs rs2).length := ⟨_, rfl⟩
                obtain ⟨TX, hTX⟩ : ∃ TX, TX = mkT (frs rs2) := ⟨_, rfl⟩
                have HVe : Hid (LV S5 a5 (frs rs2 ++ []) fn o 1048576) := by unfold Hid; rw [List.append_nil, hfn]; exact HVd.out
                rw [← hfn] at HPA hms hfb2
                rw [← hTX] at HPA hms
                rw [← hTX]
                clear hTX hfn HVd
                go_wp2_with fail
                refine HPA.out.mono ?_
                rintro e u6 ⟨v6, rfl, hO6, hb⟩
                obtain ⟨a6, c6, rfl⟩ := hO6.shape
                rw [hrs1]
                have HLe : Hid (LH u6 lb2 d S5 (fun k => k < w.heap.size ∨ (Value.slice ua rs.length uc).ownBlock = some k) rs2 false) := HLd.out.below hb
                have HOe : Hid (OS u6 w.heap.size (.slice ua rs.length uc) rs) := HOd.out.below hb
                have HKe : Hid (Keeps (fun k => k < w.heap.size) w u6) := HKd.out.trans (Keeps.of_below hb (fun k hk => Nat.lt_of_lt_of_le hk HKd.out.size))
                have HOP2 : Hid (Calls Try.prog _ _ _ _) := hopen2 (t := []) u6 HLe.out HVe.out.rd.1 HVe.out.rd.2 H52.out hl52 (.inl rfl)
                clear hO6 hb HPA HLd HOd HKd
                go_wp2_with fail
                refine HOP2.out.mono ?_
                rintro e u7 ⟨lb7, rfl, hl, _, hb⟩
                have HLf : Hid (LH u7 lb7 d S5 (fun k => k < w.heap.size ∨ (Value.slice ua rs.length uc).ownBlock = some k) rs2 false) := hl
                have HOf : Hid (OS u7 w.heap.size (.slice ua rs.length uc) rs) := HOe.out.below hb
                have HKf : Hid (Keeps (fun k => k < w.heap.size) w u7) := HKe.out.trans (Keeps.of_below hb (fun k hk => Nat.lt_of_lt_of_le hk HKe.out.size))
                clear hl hb HOP2 HLe HOe HKe
                go_wp2_with fail
                refine (awake15_any u7).mono ?_
                rintro e u8 ⟨rfl, hb⟩
                have HLg : Hid (LH u8 lb7 d S5 (fun k => k < w.heap.size ∨ (Value.slice ua rs.length uc).ownBlock = some k) rs2 false) := HLf.out.below hb
                have HOg : Hid (OS u8 w.heap.size (.slice ua rs.length uc) rs) := HOf.out.below hb
                have HKg : Hid (Keeps (fun k => k < w.heap.size) w u8) := HKf.out.trans (Keeps.of_below hb (fun k hk => Nat.lt_of_lt_of_le hk HKf.out.size))
                have HTO : Hid (Calls Try.prog _ _ _ _) := vtorn u8 HLg.out
                have hsz8 : w.heap.size ≤ u8.heap.size := HKg.out.size
                clear hb HLf HOf HKf
                go_wp2_with fail
                refine HTO.out.mono ?_
                rintro e u9 ⟨rfl, e6⟩
                have e7 := e6.symm
                subst e7
                clear e6 HTO
                go_wp2_with (at_builtin; refine append_one_g (by rfl) _ _ rfl w.heap.size (.slice ua rs.length uc) rs lastL rfl rfl HOg.out (by omega) hsz8 ?_; intro va c' u10 hO10 hg10 hr10; have HLh : Hid (LH u10 lb7 d S5 (fun k => k < w.heap.size ∨ (Value.slice va (rs.length + 1) c').ownBlock = some k) rs2 false) := (HLg.out.grown hg10 (fun r hr => .inr hr)).less (fun k hk => by
                  rcases hk with hk | hk
                  · exact .inl (.inl hk)
                  · rcases hr10 k hk with h | h
                    · exact .inl (.inr h)
                    · exact .inr h); have HKh : Hid (Keeps (fun k => k < w.heap.size) w u10) := HKg.out.grown hg10 (fun k hk => Nat.lt_of_lt_of_le hk HKg.out.size) (fun k hk hn => by have := (HOg.out.lt k hk).1; omega); have HSN0 := hsame u10 HLh.out (u := .slice va (rs.length + 1) c') (want := rs2) ⟨by rw [HRS2.out]; exact hO10.mono (Nat.zero_le _), fun r hr => .inr hr⟩ (by omega) (by omega); rw [decide_eq_true rfl] at HSN0; have HSN : Hid (Calls Try.prog _ _ _ _) := HSN0; clear hO10 hg10 hr10 HSN0; go_wp2_with fail)
                refine HSN.out.mono ?_
                rintro e u11 ⟨rfl, hb⟩
                have HKi : Hid (Keeps (fun k => k < w.heap.size) w u11) := HKh.out.trans (Keeps.of_below hb (fun k hk => Nat.lt_of_lt_of_le hk HKh.out.size))
                clear hb HSN
                go_wp2
                go_ret
                exact ⟨rfl, HKi.out.below⟩
              · have hq3i : ¬ (ii : Int) < (len2 : Int) := by omega
                have HOP : Hid (Calls Try.prog _ _ _ _) := hopen2 (t := t) wr HL9.out HV9.out.rd.1 HV9.out.rd.2 (fun r hr => by have := HR3.out r hr; omega) (by omega) (HTP9.out.b (by omega))
                go_wp2_with fail
                refine HOP.out.mono ?_
                rintro e u2 ⟨lb2, rfl, hl, _, hb⟩
                have HLa : Hid (LH u2 lb2 d S9 (fun k => k < w.heap.size ∨ (Value.slice ua rs.length uc).ownBlock = some k) rs (decide (0 < t.length))) := hl
                have HOa : Hid (OS u2 w.heap.size (.slice ua rs.length uc) rs) := HO9.out.below hb
                have HKa : Hid (Keeps (fun k => k < w.heap.size) w u2) := HK9.out.trans (Keeps.of_below hb (fun k hk => Nat.lt_of_lt_of_le hk HK9.out.size))
                have HSM0 := hsame u2 hl ⟨HOa.out.mono (Nat.zero_le _), fun r hr => .inr hr⟩ (by omega) (by omega)
                rw [decide_eq_true rfl] at HSM0
                have HSM : Hid (Calls Try.prog _ _ _ _) := HSM0
                clear hl hb HOP HSM0 HL9 HO9 HK9
                go_wp2_with fail
                refine HSM.out.mono ?_
                rintro e u3 ⟨rfl, hb⟩
                have HLb : Hid (LH u3 lb2 d S9 (fun k => k < w.heap.size ∨ (Value.slice ua rs.length uc).ownBlock = some k) rs (decide (0 < t.length))) := HLa.out.below hb
                have HOb : Hid (OS u3 w.heap.size (.slice ua rs.length uc) rs) := HOa.out.below hb
                have HKb : Hid (Keeps (fun k => k < w.heap.size) w u3) := HKa.out.trans (Keeps.of_below hb (fun k hk => Nat.lt_of_lt_of_le hk HKa.out.size))
                have HOT : Hid (Calls Try.prog _ _ _ _) := vothers u3 HLb.out HV9.out
                clear hb HSM HLa HOa HKa
                go_wp2_with fail
                refine HOT.out.mono ?_
                rintro e u4 ⟨rfl, hb⟩
                have HLc : Hid (LH u4 lb2 d S9 (fun k => k < w.heap.size ∨ (Value.slice ua rs.length uc).ownBlock = some k) rs (decide (0 < t.length))) := HLb.out.below hb
                have HOc : Hid (OS u4 w.heap.size (.slice ua rs.length uc) rs) := HOb.out.below hb
                have HKc : Hid (Keeps (fun k => k < w.heap.size) w u4) := HKb.out.trans (Keeps.of_below hb (fun k hk => Nat.lt_of_lt_of_le hk HKb.out.size))
                have HAD : Hid (Calls Try.prog _ _ _ _) := vadd (t := t) lastL u4 HLc.out HV9.out HKK9.out (fun r hr => by have := HR3.out r hr; omega) (by omega) (HTP9.out.b (by omega)) (by decide) (by have h9 := HTP9.out.len; have h8 : lastL.length = 4 := rfl; omega)
                clear hb HOT HLb HOb HKb
                go_wp2_with fail
                refine HAD.out.mono ?_
                rintro e u5 ⟨rfl, ⟨S5, a5, hl, hv⟩, hk⟩
                have HLd : Hid (LH u5 lb2 d S5 (fun k => k < w.heap.size ∨ (Value.slice ua rs.length uc).ownBlock = some k) (rs ++ [lastL]) false) := hl
                have HVd : Hid (LV S5 a5 (frs (rs ++ [lastL])) (frs (rs ++ [lastL])).length o 1048576) := hv
                have HOd : Hid (OS u5 w.heap.size (.slice ua rs.length uc) rs) := own_kept HOc.out (fun r hr => hk.block r (.inr hr))
                have HKd : Hid (Keeps (fun k => k < w.heap.size) w u5) := HKc.out.trans (hk.mono (fun k hk => .inl hk))
                have HTO : Hid (Calls Try.prog _ _ _ _) := vtorn u5 hl
                have HRD : Hid (Calls Try.prog _ _ _ _) := vread u5 hl hv
                clear hl hv hk HAD HLc HOc HKc
                go_wp2_with fail
                refine HTO.out.mono ?_
                rintro e u6 ⟨rfl, e6⟩
                have e7 := e6.symm
                subst e7
                clear e6 HTO
                go_wp2_with fail
                refine HRD.out.mono ?_
                rintro e u6 ⟨rfl, e6⟩
                have e7 := e6.symm
                subst e7
                clear e6 HRD
                have h52 : ∀ r ∈ rs ++ [lastL], r.length ≤ 5000 := mem_snoc_le (fun r hr => by have := HR3.out r hr; omega) (by decide)
                have hl52 : (rs ++ [lastL]).length ≤ 200 := by simp; omega
                have hpw := prs_whole h52 hl52
                have hfb2 : (frs (rs ++ [lastL])).length ≤ 20000 := by rw [frs_snoc, List.length_append, frm_len]; have h8 : lastL.length = 4 := rfl; omega
                have HPA0 := parse_any (frs (rs ++ [lastL])) u5 (by omega)
                rw [hpw] at HPA0
                have HPA : Hid (Calls Try.prog _ _ _ _) := HPA0
                have hms := mkT_sz (frs (rs ++ [lastL]))
                have H52 : Hid (∀ r ∈ rs ++ [lastL], r.length ≤ 5000) := h52
                have hrs1 : (rs ++ [lastL]).length = rs.length + 1 := by simp
                clear HPA0 hpw h52
                obtain ⟨rs2, hrs2⟩ : ∃ rs2, rs2 = rs ++ [lastL] := ⟨_, rfl⟩
                have HRS2 : Hid (rs2 = rs ++ [lastL]) := hrs2
                rw [← hrs2] at HPA hms H52 HVd HLd hl52 hfb2 hrs1
                rw [← hrs2]
                clear hrs2
                obtain ⟨fn, hfn⟩ : ∃ fn, fn = (frs rs2).length := ⟨_, rfl⟩
                obtain ⟨TX, hTX⟩ : ∃ TX, TX = mkT (frs rs2) := ⟨_, rfl⟩
                have HVe : Hid (LV S5 a5 (frs rs2 ++ []) fn o 1048576) := by unfold Hid; rw [List.append_nil, hfn]; exact HVd.out
                rw [← hfn] at HPA hms hfb2
                rw [← hTX] at HPA hms
                rw [← hTX]
                clear hTX hfn HVd
                go_wp2_with fail
                refine HPA.out.mono ?_
                rintro e u6 ⟨v6, rfl, hO6, hb⟩
                obtain ⟨a6, c6, rfl⟩ := hO6.shape
                rw [hrs1]
                have HLe : Hid (LH u6 lb2 d S5 (fun k => k < w.heap.size ∨ (Value.slice ua rs.length uc).ownBlock = some k) rs2 false) := HLd.out.below hb
                have HOe : Hid (OS u6 w.heap.size (.slice ua rs.length uc) rs) := HOd.out.below hb
                have HKe : Hid (Keeps (fun k => k < w.heap.size) w u6) := HKd.out.trans (Keeps.of_below hb (fun k hk => Nat.lt_of_lt_of_le hk HKd.out.size))
                have HOP2 : Hid (Calls Try.prog _ _ _ _) := hopen2 (t := []) u6 HLe.out HVe.out.rd.1 HVe.out.rd.2 H52.out hl52 (.inl rfl)
                clear hO6 hb HPA HLd HOd HKd
                go_wp2_with fail
                refine HOP2.out.mono ?_
                rintro e u7 ⟨lb7, rfl, hl, _, hb⟩
                have HLf : Hid (LH u7 lb7 d S5 (fun k => k < w.heap.size ∨ (Value.slice ua rs.length uc).ownBlock = some k) rs2 false) := hl
                have HOf : Hid (OS u7 w.heap.size (.slice ua rs.length uc) rs) := HOe.out.below hb
                have HKf : Hid (Keeps (fun k => k < w.heap.size) w u7) := HKe.out.trans (Keeps.of_below hb (fun k hk => Nat.lt_of_lt_of_le hk HKe.out.size))
                clear hl hb HOP2 HLe HOe HKe
                go_wp2_with fail
                refine (awake15_any u7).mono ?_
                rintro e u8 ⟨rfl, hb⟩
                have HLg : Hid (LH u8 lb7 d S5 (fun k => k < w.heap.size ∨ (Value.slice ua rs.length uc).ownBlock = some k) rs2 false) := HLf.out.below hb
                have HOg : Hid (OS u8 w.heap.size (.slice ua rs.length uc) rs) := HOf.out.below hb
                have HKg : Hid (Keeps (fun k => k < w.heap.size) w u8) := HKf.out.trans (Keeps.of_below hb (fun k hk => Nat.lt_of_lt_of_le hk HKf.out.size))
                have HTO : Hid (Calls Try.prog _ _ _ _) := vtorn u8 HLg.out
                have hsz8 : w.heap.size ≤ u8.heap.size := HKg.out.size
                clear hb HLf HOf HKf
                go_wp2_with fail
                refine HTO.out.mono ?_
                rintro e u9 ⟨rfl, e6⟩
                have e7 := e6.symm
                subst e7
                clear e6 HTO
                go_wp2_with (at_builtin; refine append_one_g (by rfl) _ _ rfl w.heap.size (.slice ua rs.length uc) rs lastL rfl rfl HOg.out (by omega) hsz8 ?_; intro va c' u10 hO10 hg10 hr10; have HLh : Hid (LH u10 lb7 d S5 (fun k => k < w.heap.size ∨ (Value.slice va (rs.length + 1) c').ownBlock = some k) rs2 false) := (HLg.out.grown hg10 (fun r hr => .inr hr)).less (fun k hk => by
                  rcases hk with hk | hk
                  · exact .inl (.inl hk)
                  · rcases hr10 k hk with h | h
                    · exact .inl (.inr h)
                    · exact .inr h); have HKh : Hid (Keeps (fun k => k < w.heap.size) w u10) := HKg.out.grown hg10 (fun k hk => Nat.lt_of_lt_of_le hk HKg.out.size) (fun k hk hn => by have := (HOg.out.lt k hk).1; omega); have HSN0 := hsame u10 HLh.out (u := .slice va (rs.length + 1) c') (want := rs2) ⟨by rw [HRS2.out]; exact hO10.mono (Nat.zero_le _), fun r hr => .inr hr⟩ (by omega) (by omega); rw [decide_eq_true rfl] at HSN0; have HSN : Hid (Calls Try.prog _ _ _ _) := HSN0; clear hO10 hg10 hr10 HSN0; go_wp2_with fail)
                refine HSN.out.mono ?_
                rintro e u11 ⟨rfl, hb⟩
                have HKi : Hid (Keeps (fun k => k < w.heap.size) w u11) := HKh.out.trans (Keeps.of_below hb (fun k hk => Nat.lt_of_lt_of_le hk HKh.out.size))
                clear hb HSN
                go_wp2
                go_ret
                exact ⟨rfl, HKi.out.below⟩
      · have hq1i : ¬ (i : Int) < (len0 : Int) := by omega
        by_cases htb : 300 < torn.size
        · have htbi : (300 : Int) < (torn.size : Int) := by omega
          have hTs0 := few_size torn 300
          go_wp2_with fail
          generalize torn.extract 0 300 = TR at *
          have hTs : TR.size ≤ 300 := by omega
          clear hTs0 htbi htb
          obtain ⟨tr, htr⟩ : ∃ tr, tr = TR.data.toList := ⟨_, rfl⟩
          have hTe : TR = mkT tr := by rw [htr, mkT_self]
          have htr3 : tr.length ≤ 300 := by rw [htr, size_toList]; exact hTs
          subst hTe
          clear htr
          have hTsz : (mkT tr).size = tr.length := mkT_sz tr
          have HFR : Hid (Calls Try.prog _ _ _ _) := frame_any tr wr (by omega)
          refine HFR.out.mono ?_
          rintro e u1 ⟨rfl, hb⟩
          have HL1 : Hid (LH u1 lb d S (fun k => k < w.heap.size ∨ (Value.slice ua rs.length uc).ownBlock = some k) rs false) := HLr.out.below hb
          have HO1 : Hid (OS u1 w.heap.size (.slice ua rs.length uc) rs) := HWr.out.below hb
          have HK1 : Hid (Keeps (fun k => k < w.heap.size) w u1) := HK.out.trans (Keeps.of_below hb (fun k hk => Nat.lt_of_lt_of_le hk HK.out.size))
          have hFsz : (mkT (frm tr)).size = tr.length + 8 := by rw [mkT_sz, frm_len]
          have hFx : (mkT (frm tr)).extract 0 (tr.length + 7) = mkT ((frm tr).take (tr.length + 7)) := by rw [mkT_cut]; simp
          have HXL : Hid (((frm tr).take (tr.length + 7)).length = tr.length + 7) := by unfold Hid; rw [List.length_take, frm_len]; omega
          have HAP : Hid (Calls Try.prog _ _ _ _) := vappend ((frm tr).take (tr.length + 7)) u1 HL1.out HVr.out (by rw [HXL.out]; omega) (by rw [HXL.out]; omega)
          have HTP : Hid (TornP tr ((frm tr).take (tr.length + 7))) := ⟨tr.length + 7, by omega, rfl⟩
          clear hb HFR HLr HWr HK
          rw [← hFx] at HAP
          generalize hfr : mkT (frm tr) = FT at *
          clear hfr
          obtain ⟨m, hm⟩ : ∃ m, m = tr.length := ⟨_, rfl⟩
          rw [← hm] at hTsz hFsz HAP
          have hm3 : m ≤ 300 := by omega
          have hm7 : ((m : Int) + 8 - 1) = ((m + 7 : Nat) : Int) := by omega
          have HMT : Hid (m = tr.length) := hm
          clear hm hFx
          go_wp2_with fail
          refine HAP.out.mono ?_
          rintro e u2 ⟨rfl, ⟨S2, hl, hv⟩, hk⟩
          have HL2 : Hid (LH u2 lb d S2 (fun k => k < w.heap.size ∨ (Value.slice ua rs.length uc).ownBlock = some k) rs false) := hl
          have HV2 : Hid (LV S2 a (frs rs ++ (frm tr).take (tr.length + 7)) (frs rs).length o 1048576) := by unfold Hid; rw [← HMT.out]; exact hv
          have HO2 : Hid (OS u2 w.heap.size (.slice ua rs.length uc) rs) := own_kept HO1.out (fun r hr => hk.block r (.inr hr))
          have HK2 : Hid (Keeps (fun k => k < w.heap.size) w u2) := HK1.out.trans (hk.mono (fun k hk => .inl hk))
          clear hl hv hk HAP HL1 HO1 HK1
          go_wp2
          go_loopw [15] (fun v15 wr => ∃ (i : Nat) (S : DS) (k lb : Nat) (t : List UInt8) (tn : Bool), i ≤ len2 ∧ i ≤ 10 ∧ v15 = .int .i64 (i : Int) ∧ TornP tr t ∧ (frs rs).length ≤ k ∧ LH wr lb d S (fun k => k < w.heap.size ∨ (Value.slice ua rs.length uc).ownBlock = some k) rs tn ∧ OS wr w.heap.size (.slice ua rs.length uc) rs ∧ LV S a (frs rs ++ t) k o 1048576 ∧ Keeps (fun k => k < w.heap.size) w wr) (fun v _ => 10 - (intOf v).toNat)
          case atStart => exact ⟨0, S2, (frs rs).length, lb, _, false, Nat.zero_le _, by omega, rfl, HTP.out, Nat.le_refl _, HL2.out, HO2.out, HV2.out, HK2.out⟩
          case round =>
            obtain ⟨ii, S9, k9, lb9, t, tn9, hii1, hii2, rfl, htp, hkk, hlh, how, hlv, hk⟩ := hrel
            have HL9 : Hid (LH wr lb9 d S9 (fun k => k < w.heap.size ∨ (Value.slice ua rs.length uc).ownBlock = some k) rs tn9) := hlh
            have HO9 : Hid (OS wr w.heap.size (.slice ua rs.length uc) rs) := how
            have HV9 : Hid (LV S9 a (frs rs ++ t) k9 o 1048576) := hlv
            have HK9 : Hid (Keeps (fun k => k < w.heap.size) w wr) := hk
            have HTP9 : Hid (TornP tr t) := htp
            have HKK9 : Hid ((frs rs).length ≤ k9) := hkk
            clear hlh how hlv hk htp hkk HL2 HO2 HV2 HK2 HTP
            by_cases hgo2 : ii < len2 ∧ ii < 10
            · obtain ⟨hg1, hg2⟩ := hgo2
              have hg1i : (ii : Int) < (len2 : Int) := by omega
              have hg2i : (ii : Int) < 10 := by omega
              have hii0 : (0 : Int) ≤ (ii : Int) := by omega
              obtain ⟨b2, o2, rfl, hcl2, hbl2, hcell0, hz0, hz1⟩ := row_at HRO.out hg1
              have hcell2 : wr.cell? ⟨b2, o2 + ii, none⟩ = _ := (HK9.out.cell hbl2 _).trans hcell0
              clear hcell0
              generalize zs.getD ii 0 = arm at *
              have HAR : Hid (Calls Try.prog _ _ _ _) := harm arm wr HL9.out hz0 hz1
              go_wp2_with fail
              refine HAR.out.mono ?_
              rintro e u3 ⟨rfl, hl, hk⟩
              have HLa : Hid (LH u3 lb9 d { S9 with left := arm } (fun k => k < w.heap.size ∨ (Value.slice ua rs.length uc).ownBlock = some k) rs tn9) := hl
              have HOa : Hid (OS u3 w.heap.size (.slice ua rs.length uc) rs) := own_kept HO9.out (fun r hr => hk.block r (.inr hr))
              have HKa : Hid (Keeps (fun k => k < w.heap.size) w u3) := HK9.out.trans (hk.mono (fun k hk => .inl hk))
              have HOP : Hid (Calls Try.prog _ _ _ _) := hopen2 (t := t) u3 hl HV9.out.rd.1 HV9.out.rd.2 (fun r hr => by have := HR3.out r hr; omega) (by omega) (HTP9.out.b (by omega))
              clear hl hk HAR HL9 HO9 HK9
              go_wp2_with fail
              refine HOP.out.mono ?_
              rintro e u4 ⟨lb2, rfl, hl, _, hb⟩
              have HLb : Hid (LH u4 lb2 d { S9 with left := arm } (fun k => k < w.heap.size ∨ (Value.slice ua rs.length uc).ownBlock = some k) rs (decide (0 < t.length))) := hl
              have HOb : Hid (OS u4 w.heap.size (.slice ua rs.length uc) rs) := HOa.out.below hb
              have HKb : Hid (Keeps (fun k => k < w.heap.size) w u4) := HKa.out.trans (Keeps.of_below hb (fun k hk => Nat.lt_of_lt_of_le hk HKa.out.size))
              have HSM0 := hsame u4 hl ⟨HOb.out.mono (Nat.zero_le _), fun r hr => .inr hr⟩ (by omega) (by omega)
              rw [decide_eq_true rfl] at HSM0
              have HSM : Hid (Calls Try.prog _ _ _ _) := HSM0
              clear hl hb HOP HSM0 HLa HOa HKa
              go_wp2_with fail
              refine HSM.out.mono ?_
              rintro e u5 ⟨rfl, hb⟩
              have HLc : Hid (LH u5 lb2 d { S9 with left := arm } (fun k => k < w.heap.size ∨ (Value.slice ua rs.length uc).ownBlock = some k) rs (decide (0 < t.length))) := HLb.out.below hb
              have HOc : Hid (OS u5 w.heap.size (.slice ua rs.length uc) rs) := HOb.out.below hb
              have HKc : Hid (Keeps (fun k => k < w.heap.size) w u5) := HKb.out.trans (Keeps.of_below hb (fun k hk => Nat.lt_of_lt_of_le hk HKb.out.size))
              have HAR : Hid (Calls Try.prog _ _ _ _) := harm (-1) u5 HLc.out (by decide) (by decide)
              clear hb HSM HLb HOb HKb
              go_wp2_with fail
              refine HAR.out.mono ?_
              rintro e u6 ⟨rfl, hl, hk⟩
              have HOd : Hid (OS u6 w.heap.size (.slice ua rs.length uc) rs) := own_kept HOc.out (fun r hr => hk.block r (.inr hr))
              have HKd : Hid (Keeps (fun k => k < w.heap.size) w u6) := HKc.out.trans (hk.mono (fun k hk => .inl hk))
              have HCR : Hid (Calls Try.prog _ _ _ _) := hcrash ks (.slice a3 len3 cap3) u6 hl (HKS.out.keeps HKd.out HKB.out) (fun h r hr => .inl (HKB.out h r hr)) (by have := HV9.out.lens; show S9.sure.length + S9.steps.length ≤ _; omega)
              rw [crS_left, crS_left] at HCR
              clear hl hk HAR HLc HOc HKc
              obtain ⟨t', k', htp', hkk', hlv'⟩ := HV9.out.tcrash HTP9.out HKK9.out ks
              have HV' : Hid (LV (crS S9 ks) a (frs rs ++ t') k' o 1048576) := hlv'
              have HT' : Hid (TornP tr t' ∧ (frs rs).length ≤ k') := ⟨htp', hkk'⟩
              clear htp' hkk' hlv' HV9 HTP9 HKK9
              go_wp2_with fail
              refine HCR.out.mono ?_
              rintro e u7 ⟨rfl, hl, hk⟩
              have HLe : Hid (LH u7 lb2 d (crS S9 ks) (fun k => k < w.heap.size ∨ (Value.slice ua rs.length uc).ownBlock = some k) rs (decide (0 < t.length))) := hl
              have HOe : Hid (OS u7 w.heap.size (.slice ua rs.length uc) rs) := own_kept HOd.out (fun r hr => hk.block r (.inr hr))
              have HKe : Hid (Keeps (fun k => k < w.heap.size) w u7) := HKd.out.trans (hk.mono (fun k hk => .inl hk))
              clear hl hk HCR HOd HKd
              go_wp2
              go_roundw
              case rel => exact ⟨ii + 1, crS S9 ks, k', lb2, t', _, by omega, by omega, by go_num, HT'.out.1, HT'.out.2, HLe.out, HOe.out, HV'.out, HKe.out⟩
              case measure => simp [intOf]; omega
            · by_cases hq3 : ii < len2
              · have hq3i : (ii : Int) < (len2 : Int) := by omega
                have hq4i : ¬ (ii : Int) < 10 := by omega
                have HOP : Hid (Calls Try.prog _ _ _ _) := hopen2 (t := t) wr HL9.out HV9.out.rd.1 HV9.out.rd.2 (fun r hr => by have := HR3.out r hr; omega) (by omega) (HTP9.out.b (by omega))
                go_wp2_with fail
                refine HOP.out.mono ?_
                rintro e u2 ⟨lb2, rfl, hl, _, hb⟩
                have HLa : Hid (LH u2 lb2 d S9 (fun k => k < w.heap.size ∨ (Value.slice ua rs.length uc).ownBlock = some k) rs (decide (0 < t.length))) := hl
                have HOa : Hid (OS u2 w.heap.size (.slice ua rs.length uc) rs) := HO9.out.below hb
                have HKa : Hid (Keeps (fun k => k < w.heap.size) w u2) := HK9.out.trans (Keeps.of_below hb (fun k hk => Nat.lt_of_lt_of_le hk HK9.out.size))
                have HSM0 := hsame u2 hl ⟨HOa.out.mono (Nat.zero_le _), fun r hr => .inr hr⟩ (by omega) (by omega)
                rw [decide_eq_true rfl] at HSM0
                have HSM : Hid (Calls Try.prog _ _ _ _) := HSM0
                clear hl hb HOP HSM0 HL9 HO9 HK9
                go_wp2_with fail
                refine HSM.out.mono ?_
                rintro e u3 ⟨rfl, hb⟩
                have HLb : Hid (LH u3 lb2 d S9 (fun k => k < w.heap.size ∨ (Value.slice ua rs.length uc).ownBlock = some k) rs (decide (0 < t.length))) := HLa.out.below hb
                have HOb : Hid (OS u3 w.heap.size (.slice ua rs.length uc) rs) := HOa.out.below hb
                have HKb : Hid (Keeps (fun k => k < w.heap.size) w u3) := HKa.out.trans (Keeps.of_below hb (fun k hk => Nat.lt_of_lt_of_le hk HKa.out.size))
                have HOT : Hid (Calls Try.prog _ _ _ _) := vothers u3 HLb.out HV9.out
                clear hb HSM HLa HOa HKa
                go_wp2_with fail
                refine HOT.out.mono ?_
                rintro e u4 ⟨rfl, hb⟩
                have HLc : Hid (LH u4 lb2 d S9 (fun k => k < w.heap.size ∨ (Value.slice ua rs.length uc).ownBlock = some k) rs (decide (0 < t.length))) := HLb.out.below hb
                have HOc : Hid (OS u4 w.heap.size (.slice ua rs.length uc) rs) := HOb.out.below hb
                have HKc : Hid (Keeps (fun k => k < w.heap.size) w u4) := HKb.out.trans (Keeps.of_below hb (fun k hk => Nat.lt_of_lt_of_le hk HKb.out.size))
                have HAD : Hid (Calls Try.prog _ _ _ _) := vadd (t := t) lastL u4 HLc.out HV9.out HKK9.out (fun r hr => by have := HR3.out r hr; omega) (by omega) (HTP9.out.b (by omega)) (by decide) (by have h9 := HTP9.out.len; have h8 : lastL.length = 4 := rfl; omega)
                clear hb HOT HLb HOb HKb
                go_wp2_with fail
                refine HAD.out.mono ?_
                rintro e u5 ⟨rfl, ⟨S5, a5, hl, hv⟩, hk⟩
                have HLd : Hid (LH u5 lb2 d S5 (fun k => k < w.heap.size ∨ (Value.slice ua rs.length uc).ownBlock = some k) (rs ++ [lastL]) false) := hl
                have HVd : Hid (LV S5 a5 (frs (rs ++ [lastL])) (frs (rs ++ [lastL])).length o 1048576) := hv
                have HOd : Hid (OS u5 w.heap.size (.slice ua rs.length uc) rs) := own_kept HOc.out (fun r hr => hk.block r (.inr hr))
                have HKd : Hid (Keeps (fun k => k < w.heap.size) w u5) := HKc.out.trans (hk.mono (fun k hk => .inl hk))
                have HTO : Hid (Calls Try.prog _ _ _ _) := vtorn u5 hl
                have HRD : Hid (Calls Try.prog _ _ _ _) := vread u5 hl hv
                clear hl hv hk HAD HLc HOc HKc
                go_wp2_with fail
                refine HTO.out.mono ?_
                rintro e u6 ⟨rfl, e6⟩
                have e7 := e6.symm
                subst e7
                clear e6 HTO
                go_wp2_with fail
                refine HRD.out.mono ?_
                rintro e u6 ⟨rfl, e6⟩
                have e7 := e6.symm
                subst e7
                clear e6 HRD
                have h52 : ∀ r ∈ rs ++ [lastL], r.length ≤ 5000 := mem_snoc_le (fun r hr => by have := HR3.out r hr; omega) (by decide)
                have hl52 : (rs ++ [lastL]).length ≤ 200 := by simp; omega
                have hpw := prs_whole h52 hl52
                have hfb2 : (frs (rs ++ [lastL])).length ≤ 20000 := by rw [frs_snoc, List.length_append, frm_len]; have h8 : lastL.length = 4 := rfl; omega
                have HPA0 := parse_any (frs (rs ++ [lastL])) u5 (by omega)
                rw [hpw] at HPA0
                have HPA : Hid (Calls Try.prog _ _ _ _) := HPA0
                have hms := mkT_sz (frs (rs ++ [lastL]))
                have H52 : Hid (∀ r ∈ rs ++ [lastL], r.length ≤ 5000) := h52
                have hrs1 : (rs ++ [lastL]).length = rs.length + 1 := by simp
                clear HPA0 hpw h52
                obtain ⟨rs2, hrs2⟩ : ∃ rs2, rs2 = rs ++ [lastL] := ⟨_, rfl⟩
                have HRS2 : Hid (rs2 = rs ++ [lastL]) := hrs2
                rw [← hrs2] at HPA hms H52 HVd HLd hl52 hfb2 hrs1
                rw [← hrs2]
                clear hrs2
                obtain ⟨fn, hfn⟩ : ∃ fn, fn = (frs rs2).length := ⟨_, rfl⟩
                obtain ⟨TX, hTX⟩ : ∃ TX, TX = mkT (frs rs2) := ⟨_, rfl⟩
                have HVe : Hid (LV S5 a5 (frs rs2 ++ []) fn o 1048576) := by unfold Hid; rw [List.append_nil, hfn]; exact HVd.out
                rw [← hfn] at HPA hms hfb2
                rw [← hTX] at HPA hms
                rw [← hTX]
                clear hTX hfn HVd
                go_wp2_with fail
                refine HPA.out.mono ?_
                rintro e u6 ⟨v6, rfl, hO6, hb⟩
                obtain ⟨a6, c6, rfl⟩ := hO6.shape
                rw [hrs1]
                have HLe : Hid (LH u6 lb2 d S5 (fun k => k < w.heap.size ∨ (Value.slice ua rs.length uc).ownBlock = some k) rs2 false) := HLd.out.below hb
                have HOe : Hid (OS u6 w.heap.size (.slice ua rs.length uc) rs) := HOd.out.below hb
                have HKe : Hid (Keeps (fun k => k < w.heap.size) w u6) := HKd.out.trans (Keeps.of_below hb (fun k hk => Nat.lt_of_lt_of_le hk HKd.out.size))
                have HOP2 : Hid (Calls Try.prog _ _ _ _) := hopen2 (t := []) u6 HLe.out HVe.out.rd.1 HVe.out.rd.2 H52.out hl52 (.inl rfl)
                clear hO6 hb HPA HLd HOd HKd
                go_wp2_with fail
                refine HOP2.out.mono ?_
                rintro e u7 ⟨lb7, rfl, hl, _, hb⟩
                have HLf : Hid (LH u7 lb7 d S5 (fun k => k < w.heap.size ∨ (Value.slice ua rs.length uc).ownBlock = some k) rs2 false) := hl
                have HOf : Hid (OS u7 w.heap.size (.slice ua rs.length uc) rs) := HOe.out.below hb
                have HKf : Hid (Keeps (fun k => k < w.heap.size) w u7) := HKe.out.trans (Keeps.of_below hb (fun k hk => Nat.lt_of_lt_of_le hk HKe.out.size))
                clear hl hb HOP2 HLe HOe HKe
                go_wp2_with fail
                refine (awake15_any u7).mono ?_
                rintro e u8 ⟨rfl, hb⟩
                have HLg : Hid (LH u8 lb7 d S5 (fun k => k < w.heap.size ∨ (Value.slice ua rs.length uc).ownBlock = some k) rs2 false) := HLf.out.below hb
                have HOg : Hid (OS u8 w.heap.size (.slice ua rs.length uc) rs) := HOf.out.below hb
                have HKg : Hid (Keeps (fun k => k < w.heap.size) w u8) := HKf.out.trans (Keeps.of_below hb (fun k hk => Nat.lt_of_lt_of_le hk HKf.out.size))
                have HTO : Hid (Calls Try.prog _ _ _ _) := vtorn u8 HLg.out
                have hsz8 : w.heap.size ≤ u8.heap.size := HKg.out.size
                clear hb HLf HOf HKf
                go_wp2_with fail
                refine HTO.out.mono ?_
                rintro e u9 ⟨rfl, e6⟩
                have e7 := e6.symm
                subst e7
                clear e6 HTO
                go_wp2_with (at_builtin; refine append_one_g (by rfl) _ _ rfl w.heap.size (.slice ua rs.length uc) rs lastL rfl rfl HOg.out (by omega) hsz8 ?_; intro va c' u10 hO10 hg10 hr10; have HLh : Hid (LH u10 lb7 d S5 (fun k => k < w.heap.size ∨ (Value.slice va (rs.length + 1) c').ownBlock = some k) rs2 false) := (HLg.out.grown hg10 (fun r hr => .inr hr)).less (fun k hk => by
                  rcases hk with hk | hk
                  · exact .inl (.inl hk)
                  · rcases hr10 k hk with h | h
                    · exact .inl (.inr h)
                    · exact .inr h); have HKh : Hid (Keeps (fun k => k < w.heap.size) w u10) := HKg.out.grown hg10 (fun k hk => Nat.lt_of_lt_of_le hk HKg.out.size) (fun k hk hn => by have := (HOg.out.lt k hk).1; omega); have HSN0 := hsame u10 HLh.out (u := .slice va (rs.length + 1) c') (want := rs2) ⟨by rw [HRS2.out]; exact hO10.mono (Nat.zero_le _), fun r hr => .inr hr⟩ (by omega) (by omega); rw [decide_eq_true rfl] at HSN0; have HSN : Hid (Calls Try.prog _ _ _ _) := HSN0; clear hO10 hg10 hr10 HSN0; go_wp2_with fail)
                refine HSN.out.mono ?_
                rintro e u11 ⟨rfl, hb⟩
                have HKi : Hid (Keeps (fun k => k < w.heap.size) w u11) := HKh.out.trans (Keeps.of_below hb (fun k hk => Nat.lt_of_lt_of_le hk HKh.out.size))
                clear hb HSN
                go_wp2
                go_ret
                exact ⟨rfl, HKi.out.below⟩
              · have hq3i : ¬ (ii : Int) < (len2 : Int) := by omega
                have HOP : Hid (Calls Try.prog _ _ _ _) := hopen2 (t := t) wr HL9.out HV9.out.rd.1 HV9.out.rd.2 (fun r hr => by have := HR3.out r hr; omega) (by omega) (HTP9.out.b (by omega))
                go_wp2_with fail
                refine HOP.out.mono ?_
                rintro e u2 ⟨lb2, rfl, hl, _, hb⟩
                have HLa : Hid (LH u2 lb2 d S9 (fun k => k < w.heap.size ∨ (Value.slice ua rs.length uc).ownBlock = some k) rs (decide (0 < t.length))) := hl
                have HOa : Hid (OS u2 w.heap.size (.slice ua rs.length uc) rs) := HO9.out.below hb
                have HKa : Hid (Keeps (fun k => k < w.heap.size) w u2) := HK9.out.trans (Keeps.of_below hb (fun k hk => Nat.lt_of_lt_of_le hk HK9.out.size))
                have HSM0 := hsame u2 hl ⟨HOa.out.mono (Nat.zero_le _), fun r hr => .inr hr⟩ (by omega) (by omega)
                rw [decide_eq_true rfl] at HSM0
                have HSM : Hid (Calls Try.prog _ _ _ _) := HSM0
                clear hl hb HOP HSM0 HL9 HO9 HK9
                go_wp2_with fail
                refine HSM.out.mono ?_
                rintro e u3 ⟨rfl, hb⟩
                have HLb : Hid (LH u3 lb2 d S9 (fun k => k < w.heap.size ∨ (Value.slice ua rs.length uc).ownBlock = some k) rs (decide (0 < t.length))) := HLa.out.below hb
                have HOb : Hid (OS u3 w.heap.size (.slice ua rs.length uc) rs) := HOa.out.below hb
                have HKb : Hid (Keeps (fun k => k < w.heap.size) w u3) := HKa.out.trans (Keeps.of_below hb (fun k hk => Nat.lt_of_lt_of_le hk HKa.out.size))
                have HOT : Hid (Calls Try.prog _ _ _ _) := vothers u3 HLb.out HV9.out
                clear hb HSM HLa HOa HKa
                go_wp2_with fail
                refine HOT.out.mono ?_
                rintro e u4 ⟨rfl, hb⟩
                have HLc : Hid (LH u4 lb2 d S9 (fun k => k < w.heap.size ∨ (Value.slice ua rs.length uc).ownBlock = some k) rs (decide (0 < t.length))) := HLb.out.below hb
                have HOc : Hid (OS u4 w.heap.size (.slice ua rs.length uc) rs) := HOb.out.below hb
                have HKc : Hid (Keeps (fun k => k < w.heap.size) w u4) := HKb.out.trans (Keeps.of_below hb (fun k hk => Nat.lt_of_lt_of_le hk HKb.out.size))
                have HAD : Hid (Calls Try.prog _ _ _ _) := vadd (t := t) lastL u4 HLc.out HV9.out HKK9.out (fun r hr => by have := HR3.out r hr; omega) (by omega) (HTP9.out.b (by omega)) (by decide) (by have h9 := HTP9.out.len; have h8 : lastL.length = 4 := rfl; omega)
                clear hb HOT HLb HOb HKb
                go_wp2_with fail
                refine HAD.out.mono ?_
                rintro e u5 ⟨rfl, ⟨S5, a5, hl, hv⟩, hk⟩
                have HLd : Hid (LH u5 lb2 d S5 (fun k => k < w.heap.size ∨ (Value.slice ua rs.length uc).ownBlock = some k) (rs ++ [lastL]) false) := hl
                have HVd : Hid (LV S5 a5 (frs (rs ++ [lastL])) (frs (rs ++ [lastL])).length o 1048576) := hv
                have HOd : Hid (OS u5 w.heap.size (.slice ua rs.length uc) rs) := own_kept HOc.out (fun r hr => hk.block r (.inr hr))
                have HKd : Hid (Keeps (fun k => k < w.heap.size) w u5) := HKc.out.trans (hk.mono (fun k hk => .inl hk))
                have HTO : Hid (Calls Try.prog _ _ _ _) := vtorn u5 hl
                have HRD : Hid (Calls Try.prog _ _ _ _) := vread u5 hl hv
                clear hl hv hk HAD HLc HOc HKc
                go_wp2_with fail
                refine HTO.out.mono ?_
                rintro e u6 ⟨rfl, e6⟩
                have e7 := e6.symm
                subst e7
                clear e6 HTO
                go_wp2_with fail
                refine HRD.out.mono ?_
                rintro e u6 ⟨rfl, e6⟩
                have e7 := e6.symm
                subst e7
                clear e6 HRD
                have h52 : ∀ r ∈ rs ++ [lastL], r.length ≤ 5000 := mem_snoc_le (fun r hr => by have := HR3.out r hr; omega) (by decide)
                have hl52 : (rs ++ [lastL]).length ≤ 200 := by simp; omega
                have hpw := prs_whole h52 hl52
                have hfb2 : (frs (rs ++ [lastL])).length ≤ 20000 := by rw [frs_snoc, List.length_append, frm_len]; have h8 : lastL.length = 4 := rfl; omega
                have HPA0 := parse_any (frs (rs ++ [lastL])) u5 (by omega)
                rw [hpw] at HPA0
                have HPA : Hid (Calls Try.prog _ _ _ _) := HPA0
                have hms := mkT_sz (frs (rs ++ [lastL]))
                have H52 : Hid (∀ r ∈ rs ++ [lastL], r.length ≤ 5000) := h52
                have hrs1 : (rs ++ [lastL]).length = rs.length + 1 := by simp
                clear HPA0 hpw h52
                obtain ⟨rs2, hrs2⟩ : ∃ rs2, rs2 = rs ++ [lastL] := ⟨_, rfl⟩
                have HRS2 : Hid (rs2 = rs ++ [lastL]) := hrs2
                rw [← hrs2] at HPA hms H52 HVd HLd hl52 hfb2 hrs1
                rw [← hrs2]
                clear hrs2
                obtain ⟨fn, hfn⟩ : ∃ fn, fn = (frs rs2).length := ⟨_, rfl⟩
                obtain ⟨TX, hTX⟩ : ∃ TX, TX = mkT (frs rs2) := ⟨_, rfl⟩
                have HVe : Hid (LV S5 a5 (frs rs2 ++ []) fn o 1048576) := by unfold Hid; rw [List.append_nil, hfn]; exact HVd.out
                rw [← hfn] at HPA hms hfb2
                rw [← hTX] at HPA hms
                rw [← hTX]
                clear hTX hfn HVd
                go_wp2_with fail
                refine HPA.out.mono ?_
                rintro e u6 ⟨v6, rfl, hO6, hb⟩
                obtain ⟨a6, c6, rfl⟩ := hO6.shape
                rw [hrs1]
                have HLe : Hid (LH u6 lb2 d S5 (fun k => k < w.heap.size ∨ (Value.slice ua rs.length uc).ownBlock = some k) rs2 false) := HLd.out.below hb
                have HOe : Hid (OS u6 w.heap.size (.slice ua rs.length uc) rs) := HOd.out.below hb
                have HKe : Hid (Keeps (fun k => k < w.heap.size) w u6) := HKd.out.trans (Keeps.of_below hb (fun k hk => Nat.lt_of_lt_of_le hk HKd.out.size))
                have HOP2 : Hid (Calls Try.prog _ _ _ _) := hopen2 (t := []) u6 HLe.out HVe.out.rd.1 HVe.out.rd.2 H52.out hl52 (.inl rfl)
                clear hO6 hb HPA HLd HOd HKd
                go_wp2_with fail
                refine HOP2.out.mono ?_
                rintro e u7 ⟨lb7, rfl, hl, _, hb⟩
                have HLf : Hid (LH u7 lb7 d S5 (fun k => k < w.heap.size ∨ (Value.slice ua rs.length uc).ownBlock = some k) rs2 false) := hl
                have HOf : Hid (OS u7 w.heap.size (.slice ua rs.length uc) rs) := HOe.out.below hb
                have HKf : Hid (Keeps (fun k => k < w.heap.size) w u7) := HKe.out.trans (Keeps.of_below hb (fun k hk => Nat.lt_of_lt_of_le hk HKe.out.size))
                clear hl hb HOP2 HLe HOe HKe
                go_wp2_with fail
                refine (awake15_any u7).mono ?_
                rintro e u8 ⟨rfl, hb⟩
                have HLg : Hid (LH u8 lb7 d S5 (fun k => k < w.heap.size ∨ (Value.slice ua rs.length uc).ownBlock = some k) rs2 false) := HLf.out.below hb
                have HOg : Hid (OS u8 w.heap.size (.slice ua rs.length uc) rs) := HOf.out.below hb
                have HKg : Hid (Keeps (fun k => k < w.heap.size) w u8) := HKf.out.trans (Keeps.of_below hb (fun k hk => Nat.lt_of_lt_of_le hk HKf.out.size))
                have HTO : Hid (Calls Try.prog _ _ _ _) := vtorn u8 HLg.out
                have hsz8 : w.heap.size ≤ u8.heap.size := HKg.out.size
                clear hb HLf HOf HKf
                go_wp2_with fail
                refine HTO.out.mono ?_
                rintro e u9 ⟨rfl, e6⟩
                have e7 := e6.symm
                subst e7
                clear e6 HTO
                go_wp2_with (at_builtin; refine append_one_g (by rfl) _ _ rfl w.heap.size (.slice ua rs.length uc) rs lastL rfl rfl HOg.out (by omega) hsz8 ?_; intro va c' u10 hO10 hg10 hr10; have HLh : Hid (LH u10 lb7 d S5 (fun k => k < w.heap.size ∨ (Value.slice va (rs.length + 1) c').ownBlock = some k) rs2 false) := (HLg.out.grown hg10 (fun r hr => .inr hr)).less (fun k hk => by
                  rcases hk with hk | hk
                  · exact .inl (.inl hk)
                  · rcases hr10 k hk with h | h
                    · exact .inl (.inr h)
                    · exact .inr h); have HKh : Hid (Keeps (fun k => k < w.heap.size) w u10) := HKg.out.grown hg10 (fun k hk => Nat.lt_of_lt_of_le hk HKg.out.size) (fun k hk hn => by have := (HOg.out.lt k hk).1; omega); have HSN0 := hsame u10 HLh.out (u := .slice va (rs.length + 1) c') (want := rs2) ⟨by rw [HRS2.out]; exact hO10.mono (Nat.zero_le _), fun r hr => .inr hr⟩ (by omega) (by omega); rw [decide_eq_true rfl] at HSN0; have HSN : Hid (Calls Try.prog _ _ _ _) := HSN0; clear hO10 hg10 hr10 HSN0; go_wp2_with fail)
                refine HSN.out.mono ?_
                rintro e u11 ⟨rfl, hb⟩
                have HKi : Hid (Keeps (fun k => k < w.heap.size) w u11) := HKh.out.trans (Keeps.of_below hb (fun k hk => Nat.lt_of_lt_of_le hk HKh.out.size))
                clear hb HSN
                go_wp2
                go_ret
                exact ⟨rfl, HKi.out.below⟩
        · have htbi : ¬ (300 : Int) < (torn.size : Int) := by omega
          go_wp2_with fail
          obtain ⟨TR, hTR⟩ : ∃ TR, TR = torn := ⟨_, rfl⟩
          have hTs : TR.size ≤ 300 := by rw [hTR]; omega
          rw [← hTR]
          clear htbi htb hTR
          obtain ⟨tr, htr⟩ : ∃ tr, tr = TR.data.toList := ⟨_, rfl⟩
          have hTe : TR = mkT tr := by rw [htr, mkT_self]
          have htr3 : tr.length ≤ 300 := by rw [htr, size_toList]; exact hTs
          subst hTe
          clear htr
          have hTsz : (mkT tr).size = tr.length := mkT_sz tr
          have HFR : Hid (Calls Try.prog _ _ _ _) := frame_any tr wr (by omega)
          refine HFR.out.mono ?_
          rintro e u1 ⟨rfl, hb⟩
          have HL1 : Hid (LH u1 lb d S (fun k => k < w.heap.size ∨ (Value.slice ua rs.length uc).ownBlock = some k) rs false) := HLr.out.below hb
          have HO1 : Hid (OS u1 w.heap.size (.slice ua rs.length uc) rs) := HWr.out.below hb
          have HK1 : Hid (Keeps (fun k => k < w.heap.size) w u1) := HK.out.trans (Keeps.of_below hb (fun k hk => Nat.lt_of_lt_of_le hk HK.out.size))
          have hFsz : (mkT (frm tr)).size = tr.length + 8 := by rw [mkT_sz, frm_len]
          have hFx : (mkT (frm tr)).extract 0 (tr.length + 7) = mkT ((frm tr).take (tr.length + 7)) := by rw [mkT_cut]; simp
          have HXL : Hid (((frm tr).take (tr.length + 7)).length = tr.length + 7) := by unfold Hid; rw [List.length_take, frm_len]; omega
          have HAP : Hid (Calls Try.prog _ _ _ _) := vappend ((frm tr).take (tr.length + 7)) u1 HL1.out HVr.out (by rw [HXL.out]; omega) (by rw [HXL.out]; omega)
          have HTP : Hid (TornP tr ((frm tr).take (tr.length + 7))) := ⟨tr.length + 7, by omega, rfl⟩
          clear hb HFR HLr HWr HK
          rw [← hFx] at HAP
          generalize hfr : mkT (frm tr) = FT at *
          clear hfr
          obtain ⟨m, hm⟩ : ∃ m, m = tr.length := ⟨_, rfl⟩
          rw [← hm] at hTsz hFsz HAP
          have hm3 : m ≤ 300 := by omega
          have hm7 : ((m : Int) + 8 - 1) = ((m + 7 : Nat) : Int) := by omega
          have HMT : Hid (m = tr.length) := hm
          clear hm hFx
          go_wp2_with fail
          refine HAP.out.mono ?_
          rintro e u2 ⟨rfl, ⟨S2, hl, hv⟩, hk⟩
          have HL2 : Hid (LH u2 lb d S2 (fun k => k < w.heap.size ∨ (Value.slice ua rs.length uc).ownBlock = some k) rs false) := hl
          have HV2 : Hid (LV S2 a (frs rs ++ (frm tr).take (tr.length + 7)) (frs rs).length o 1048576) := by unfold Hid; rw [← HMT.out]; exact hv
          have HO2 : Hid (OS u2 w.heap.size (.slice ua rs.length uc) rs) := own_kept HO1.out (fun r hr => hk.block r (.inr hr))
          have HK2 : Hid (Keeps (fun k => k < w.heap.size) w u2) := HK1.out.trans (hk.mono (fun k hk => .inl hk))
          clear hl hv hk HAP HL1 HO1 HK1
          go_wp2
          go_loopw [15] (fun v15 wr => ∃ (i : Nat) (S : DS) (k lb : Nat) (t : List UInt8) (tn : Bool), i ≤ len2 ∧ i ≤ 10 ∧ v15 = .int .i64 (i : Int) ∧ TornP tr t ∧ (frs rs).length ≤ k ∧ LH wr lb d S (fun k => k < w.heap.size ∨ (Value.slice ua rs.length uc).ownBlock = some k) rs tn ∧ OS wr w.heap.size (.slice ua rs.length uc) rs ∧ LV S a (frs rs ++ t) k o 1048576 ∧ Keeps (fun k => k < w.heap.size) w wr) (fun v _ => 10 - (intOf v).toNat)
          case atStart => exact ⟨0, S2, (frs rs).length, lb, _, false, Nat.zero_le _, by omega, rfl, HTP.out, Nat.le_refl _, HL2.out, HO2.out, HV2.out, HK2.out⟩
          case round =>
            obtain ⟨ii, S9, k9, lb9, t, tn9, hii1, hii2, rfl, htp, hkk, hlh, how, hlv, hk⟩ := hrel
            have HL9 : Hid (LH wr lb9 d S9 (fun k => k < w.heap.size ∨ (Value.slice ua rs.length uc).ownBlock = some k) rs tn9) := hlh
            have HO9 : Hid (OS wr w.heap.size (.slice ua rs.length uc) rs) := how
            have HV9 : Hid (LV S9 a (frs rs ++ t) k9 o 1048576) := hlv
            have HK9 : Hid (Keeps (fun k => k < w.heap.size) w wr) := hk
            have HTP9 : Hid (TornP tr t) := htp
            have HKK9 : Hid ((frs rs).length ≤ k9) := hkk
            clear hlh how hlv hk htp hkk HL2 HO2 HV2 HK2 HTP
            by_cases hgo2 : ii < len2 ∧ ii < 10
            · obtain ⟨hg1, hg2⟩ := hgo2
              have hg1i : (ii : Int) < (len2 : Int) := by omega
              have hg2i : (ii : Int) < 10 := by omega
              have hii0 : (0 : Int) ≤ (ii : Int) := by omega
              obtain ⟨b2, o2, rfl, hcl2, hbl2, hcell0, hz0, hz1⟩ := row_at HRO.out hg1
              have hcell2 : wr.cell? ⟨b2, o2 + ii, none⟩ = _ := (HK9.out.cell hbl2 _).trans hcell0
              clear hcell0
              generalize zs.getD ii 0 = arm at *
              have HAR : Hid (Calls Try.prog _ _ _ _) := harm arm wr HL9.out hz0 hz1
              go_wp2_with fail
              refine HAR.out.mono ?_
              rintro e u3 ⟨rfl, hl, hk⟩
              have HLa : Hid (LH u3 lb9 d { S9 with left := arm } (fun k => k < w.heap.size ∨ (Value.slice ua rs.length uc).ownBlock = some k) rs tn9) := hl
              have HOa : Hid (OS u3 w.heap.size (.slice ua rs.length uc) rs) := own_kept HO9.out (fun r hr => hk.block r (.inr hr))
              have HKa : Hid (Keeps (fun k => k < w.heap.size) w u3) := HK9.out.trans (hk.mono (fun k hk => .inl hk))
              have HOP : Hid (Calls Try.prog _ _ _ _) := hopen2 (t := t) u3 hl HV9.out.rd.1 HV9.out.rd.2 (fun r hr => by have := HR3.out r hr; omega) (by omega) (HTP9.out.b (by omega))
              clear hl hk HAR HL9 HO9 HK9
              go_wp2_with fail
              refine HOP.out.mono ?_
              rintro e u4 ⟨lb2, rfl, hl, _, hb⟩
              have HLb : Hid (LH u4 lb2 d { S9 with left := arm } (fun k => k < w.heap.size ∨ (Value.slice ua rs.length uc).ownBlock = some k) rs (decide (0 < t.length))) := hl
              have HOb : Hid (OS u4 w.heap.size (.slice ua rs.length uc) rs) := HOa.out.below hb
              have HKb : Hid (Keeps (fun k => k < w.heap.size) w u4) := HKa.out.trans (Keeps.of_below hb (fun k hk => Nat.lt_of_lt_of_le hk HKa.out.size))
              have HSM0 := hsame u4 hl ⟨HOb.out.mono (Nat.zero_le _), fun r hr => .inr hr⟩ (by omega) (by omega)
              rw [decide_eq_true rfl] at HSM0
              have HSM : Hid (Calls Try.prog _ _ _ _) := HSM0
              clear hl hb HOP HSM0 HLa HOa HKa
              go_wp2_with fail
              refine HSM.out.mono ?_
              rintro e u5 ⟨rfl, hb⟩
              have HLc : Hid (LH u5 lb2 d { S9 with left := arm } (fun k => k < w.heap.size ∨ (Value.slice ua rs.length uc).ownBlock = some k) rs (decide (0 < t.length))) := HLb.out.below hb
              have HOc : Hid (OS u5 w.heap.size (.slice ua rs.length uc) rs) := HOb.out.below hb
              have HKc : Hid (Keeps (fun k => k < w.heap.size) w u5) := HKb.out.trans (Keeps.of_below hb (fun k hk => Nat.lt_of_lt_of_le hk HKb.out.size))
              have HAR : Hid (Calls Try.prog _ _ _ _) := harm (-1) u5 HLc.out (by decide) (by decide)
              clear hb HSM HLb HOb HKb
              go_wp2_with fail
              refine HAR.out.mono ?_
              rintro e u6 ⟨rfl, hl, hk⟩
              have HOd : Hid (OS u6 w.heap.size (.slice ua rs.length uc) rs) := own_kept HOc.out (fun r hr => hk.block r (.inr hr))
              have HKd : Hid (Keeps (fun k => k < w.heap.size) w u6) := HKc.out.trans (hk.mono (fun k hk => .inl hk))
              have HCR : Hid (Calls Try.prog _ _ _ _) := hcrash ks (.slice a3 len3 cap3) u6 hl (HKS.out.keeps HKd.out HKB.out) (fun h r hr => .inl (HKB.out h r hr)) (by have := HV9.out.lens; show S9.sure.length + S9.steps.length ≤ _; omega)
              rw [crS_left, crS_left] at HCR
              clear hl hk HAR HLc HOc HKc
              obtain ⟨t', k', htp', hkk', hlv'⟩ := HV9.out.tcrash HTP9.out HKK9.out ks
              have HV' : Hid (LV (crS S9 ks) a (frs rs ++ t') k' o 1048576) := hlv'
              have HT' : Hid (TornP tr t' ∧ (frs rs).length ≤ k') := ⟨htp', hkk'⟩
              clear htp' hkk' hlv' HV9 HTP9 HKK9
              go_wp2_with fail
              refine HCR.out.mono ?_
              rintro e u7 ⟨rfl, hl, hk⟩
              have HLe : Hid (LH u7 lb2 d (crS S9 ks) (fun k => k < w.heap.size ∨ (Value.slice ua rs.length uc).ownBlock = some k) rs (decide (0 < t.length))) := hl
              have HOe : Hid (OS u7 w.heap.size (.slice ua rs.length uc) rs) := own_kept HOd.out (fun r hr => hk.block r (.inr hr))
              have HKe : Hid (Keeps (fun k => k < w.heap.size) w u7) := HKd.out.trans (hk.mono (fun k hk => .inl hk))
              clear hl hk HCR HOd HKd
              go_wp2
              go_roundw
              case rel => exact ⟨ii + 1, crS S9 ks, k', lb2, t', _, by omega, by omega, by go_num, HT'.out.1, HT'.out.2, HLe.out, HOe.out, HV'.out, HKe.out⟩
              case measure => simp [intOf]; omega
            · by_cases hq3 : ii < len2
              · have hq3i : (ii : Int) < (len2 : Int) := by omega
                have hq4i : ¬ (ii : Int) < 10 := by omega
                have HOP : Hid (Calls Try.prog _ _ _ _) := hopen2 (t := t) wr HL9.out HV9.out.rd.1 HV9.out.rd.2 (fun r hr => by have := HR3.out r hr; omega) (by omega) (HTP9.out.b (by omega))
                go_wp2_with fail
                refine HOP.out.mono ?_
                rintro e u2 ⟨lb2, rfl, hl, _, hb⟩
                have HLa : Hid (LH u2 lb2 d S9 (fun k => k < w.heap.size ∨ (Value.slice ua rs.length uc).ownBlock = some k) rs (decide (0 < t.length))) := hl
                have HOa : Hid (OS u2 w.heap.size (.slice ua rs.length uc) rs) := HO9.out.below hb
                have HKa : Hid (Keeps (fun k => k < w.heap.size) w u2) := HK9.out.trans (Keeps.of_below hb (fun k hk => Nat.lt_of_lt_of_le hk HK9.out.size))
                have HSM0 := hsame u2 hl ⟨HOa.out.mono (Nat.zero_le _), fun r hr => .inr hr⟩ (by omega) (by omega)
                rw [decide_eq_true rfl] at HSM0
                have HSM : Hid (Calls Try.prog _ _ _ _) := HSM0
                clear hl hb HOP HSM0 HL9 HO9 HK9
                go_wp2_with fail
                refine HSM.out.mono ?_
                rintro e u3 ⟨rfl, hb⟩
                have HLb : Hid (LH u3 lb2 d S9 (fun k => k < w.heap.size ∨ (Value.slice ua rs.length uc).ownBlock = some k) rs (decide (0 < t.length))) := HLa.out.below hb
                have HOb : Hid (OS u3 w.heap.size (.slice ua rs.length uc) rs) := HOa.out.below hb
                have HKb : Hid (Keeps (fun k => k < w.heap.size) w u3) := HKa.out.trans (Keeps.of_below hb (fun k hk => Nat.lt_of_lt_of_le hk HKa.out.size))
                have HOT : Hid (Calls Try.prog _ _ _ _) := vothers u3 HLb.out HV9.out
                clear hb HSM HLa HOa HKa
                go_wp2_with fail
                refine HOT.out.mono ?_
                rintro e u4 ⟨rfl, hb⟩
                have HLc : Hid (LH u4 lb2 d S9 (fun k => k < w.heap.size ∨ (Value.slice ua rs.length uc).ownBlock = some k) rs (decide (0 < t.length))) := HLb.out.below hb
                have HOc : Hid (OS u4 w.heap.size (.slice ua rs.length uc) rs) := HOb.out.below hb
                have HKc : Hid (Keeps (fun k => k < w.heap.size) w u4) := HKb.out.trans (Keeps.of_below hb (fun k hk => Nat.lt_of_lt_of_le hk HKb.out.size))
                have HAD : Hid (Calls Try.prog _ _ _ _) := vadd (t := t) lastL u4 HLc.out HV9.out HKK9.out (fun r hr => by have := HR3.out r hr; omega) (by omega) (HTP9.out.b (by omega)) (by decide) (by have h9 := HTP9.out.len; have h8 : lastL.length = 4 := rfl; omega)
                clear hb HOT HLb HOb HKb
                go_wp2_with fail
                refine HAD.out.mono ?_
                rintro e u5 ⟨rfl, ⟨S5, a5, hl, hv⟩, hk⟩
                have HLd : Hid (LH u5 lb2 d S5 (fun k => k < w.heap.size ∨ (Value.slice ua rs.length uc).ownBlock = some k) (rs ++ [lastL]) false) := hl
                have HVd : Hid (LV S5 a5 (frs (rs ++ [lastL])) (frs (rs ++ [lastL])).length o 1048576) := hv
                have HOd : Hid (OS u5 w.heap.size (.slice ua rs.length uc) rs) := own_kept HOc.out (fun r hr => hk.block r (.inr hr))
                have HKd : Hid (Keeps (fun k => k < w.heap.size) w u5) := HKc.out.trans (hk.mono (fun k hk => .inl hk))
                have HTO : Hid (Calls Try.prog _ _ _ _) := vtorn u5 hl
                have HRD : Hid (Calls Try.prog _ _ _ _) := vread u5 hl hv
                clear hl hv hk HAD HLc HOc HKc
                go_wp2_with fail
                refine HTO.out.mono ?_
                rintro e u6 ⟨rfl, e6⟩
                have e7 := e6.symm
                subst e7
                clear e6 HTO
                go_wp2_with fail
                refine HRD.out.mono ?_
                rintro e u6 ⟨rfl, e6⟩
                have e7 := e6.symm
                subst e7
                clear e6 HRD
                have h52 : ∀ r ∈ rs ++ [lastL], r.length ≤ 5000 := mem_snoc_le (fun r hr => by have := HR3.out r hr; omega) (by decide)
                have hl52 : (rs ++ [lastL]).length ≤ 200 := by simp; omega
                have hpw := prs_whole h52 hl52
                have hfb2 : (frs (rs ++ [lastL])).length ≤ 20000 := by rw [frs_snoc, List.length_append, frm_len]; have h8 : lastL.length = 4 := rfl; omega
                have HPA0 := parse_any (frs (rs ++ [lastL])) u5 (by omega)
                rw [hpw] at HPA0
                have HPA : Hid (Calls Try.prog _ _ _ _) := HPA0
                have hms := mkT_sz (frs (rs ++ [lastL]))
                have H52 : Hid (∀ r ∈ rs ++ [lastL], r.length ≤ 5000) := h52
                have hrs1 : (rs ++ [lastL]).length = rs.length + 1 := by simp
                clear HPA0 hpw h52
                obtain ⟨rs2, hrs2⟩ : ∃ rs2, rs2 = rs ++ [lastL] := ⟨_, rfl⟩
                have HRS2 : Hid (rs2 = rs ++ [lastL]) := hrs2
                rw [← hrs2] at HPA hms H52 HVd HLd hl52 hfb2 hrs1
                rw [← hrs2]
                clear hrs2
                obtain ⟨fn, hfn⟩ : ∃ fn, fn = (frs rs2).length := ⟨_, rfl⟩
                obtain ⟨TX, hTX⟩ : ∃ TX, TX = mkT (frs rs2) := ⟨_, rfl⟩
                have HVe : Hid (LV S5 a5 (frs rs2 ++ []) fn o 1048576) := by unfold Hid; rw [List.append_nil, hfn]; exact HVd.out
                rw [← hfn] at HPA hms hfb2
                rw [← hTX] at HPA hms
                rw [← hTX]
                clear hTX hfn HVd
                go_wp2_with fail
                refine HPA.out.mono ?_
                rintro e u6 ⟨v6, rfl, hO6, hb⟩
                obtain ⟨a6, c6, rfl⟩ := hO6.shape
                rw [hrs1]
                have HLe : Hid (LH u6 lb2 d S5 (fun k => k < w.heap.size ∨ (Value.slice ua rs.length uc).ownBlock = some k) rs2 false) := HLd.out.below hb
                have HOe : Hid (OS u6 w.heap.size (.slice ua rs.length uc) rs) := HOd.out.below hb
                have HKe : Hid (Keeps (fun k => k < w.heap.size) w u6) := HKd.out.trans (Keeps.of_below hb (fun k hk => Nat.lt_of_lt_of_le hk HKd.out.size))
                have HOP2 : Hid (Calls Try.prog _ _ _ _) := hopen2 (t := []) u6 HLe.out HVe.out.rd.1 HVe.out.rd.2 H52.out hl52 (.inl rfl)
                clear hO6 hb HPA HLd HOd HKd
                go_wp2_with fail
                refine HOP2.out.mono ?_
                rintro e u7 ⟨lb7, rfl, hl, _, hb⟩
                have HLf : Hid (LH u7 lb7 d S5 (fun k => k < w.heap.size ∨ (Value.slice ua rs.length uc).ownBlock = some k) rs2 false) := hl
                have HOf : Hid (OS u7 w.heap.size (.slice ua rs.length uc) rs) := HOe.out.below hb
                have HKf : Hid (Keeps (fun k => k < w.heap.size) w u7) := HKe.out.trans (Keeps.of_below hb (fun k hk => Nat.lt_of_lt_of_le hk HKe.out.size))
                clear hl hb HOP2 HLe HOe HKe
                go_wp2_with fail
                refine (awake15_any u7).mono ?_
                rintro e u8 ⟨rfl, hb⟩
                have HLg : Hid (LH u8 lb7 d S5 (fun k => k < w.heap.size ∨ (Value.slice ua rs.length uc).ownBlock = some k) rs2 false) := HLf.out.below hb
                have HOg : Hid (OS u8 w.heap.size (.slice ua rs.length uc) rs) := HOf.out.below hb
                have HKg : Hid (Keeps (fun k => k < w.heap.size) w u8) := HKf.out.trans (Keeps.of_below hb (fun k hk => Nat.lt_of_lt_of_le hk HKf.out.size))
                have HTO : Hid (Calls Try.prog _ _ _ _) := vtorn u8 HLg.out
                have hsz8 : w.heap.size ≤ u8.heap.size := HKg.out.size
                clear hb HLf HOf HKf
                go_wp2_with fail
                refine HTO.out.mono ?_
                rintro e u9 ⟨rfl, e6⟩
                have e7 := e6.symm
                subst e7
                clear e6 HTO
                go_wp2_with (at_builtin; refine append_one_g (by rfl) _ _ rfl w.heap.size (.slice ua rs.length uc) rs lastL rfl rfl HOg.out (by omega) hsz8 ?_; intro va c' u10 hO10 hg10 hr10; have HLh : Hid (LH u10 lb7 d S5 (fun k => k < w.heap.size ∨ (Value.slice va (rs.length + 1) c').ownBlock = some k) rs2 false) := (HLg.out.grown hg10 (fun r hr => .inr hr)).less (fun k hk => by
                  rcases hk with hk | hk
                  · exact .inl (.inl hk)
                  · rcases hr10 k hk with h | h
                    · exact .inl (.inr h)
                    · exact .inr h); have HKh : Hid (Keeps (fun k => k < w.heap.size) w u10) := HKg.out.grown hg10 (fun k hk => Nat.lt_of_lt_of_le hk HKg.out.size) (fun k hk hn => by have := (HOg.out.lt k hk).1; omega); have HSN0 := hsame u10 HLh.out (u := .slice va (rs.length + 1) c') (want := rs2) ⟨by rw [HRS2.out]; exact hO10.mono (Nat.zero_le _), fun r hr => .inr hr⟩ (by omega) (by omega); rw [decide_eq_true rfl] at HSN0; have HSN : Hid (Calls Try.prog _ _ _ _) := HSN0; clear hO10 hg10 hr10 HSN0; go_wp2_with fail)
                refine HSN.out.mono ?_
                rintro e u11 ⟨rfl, hb⟩
                have HKi : Hid (Keeps (fun k => k < w.heap.size) w u11) := HKh.out.trans (Keeps.of_below hb (fun k hk => Nat.lt_of_lt_of_le hk HKh.out.size))
                clear hb HSN
                go_wp2
                go_ret
                exact ⟨rfl, HKi.out.below⟩
              · have hq3i : ¬ (ii : Int) < (len2 : Int) := by omega
                have HOP : Hid (Calls Try.prog _ _ _ _) := hopen2 (t := t) wr HL9.out HV9.out.rd.1 HV9.out.rd.2 (fun r hr => by have := HR3.out r hr; omega) (by omega) (HTP9.out.b (by omega))
                go_wp2_with fail
                refine HOP.out.mono ?_
                rintro e u2 ⟨lb2, rfl, hl, _, hb⟩
                have HLa : Hid (LH u2 lb2 d S9 (fun k => k < w.heap.size ∨ (Value.slice ua rs.length uc).ownBlock = some k) rs (decide (0 < t.length))) := hl
                have HOa : Hid (OS u2 w.heap.size (.slice ua rs.length uc) rs) := HO9.out.below hb
                have HKa : Hid (Keeps (fun k => k < w.heap.size) w u2) := HK9.out.trans (Keeps.of_below hb (fun k hk => Nat.lt_of_lt_of_le hk HK9.out.size))
                have HSM0 := hsame u2 hl ⟨HOa.out.mono (Nat.zero_le _), fun r hr => .inr hr⟩ (by omega) (by omega)
                rw [decide_eq_true rfl] at HSM0
                have HSM : Hid (Calls Try.prog _ _ _ _) := HSM0
                clear hl hb HOP HSM0 HL9 HO9 HK9
                go_wp2_with fail
                refine HSM.out.mono ?_
                rintro e u3 ⟨rfl, hb⟩
                have HLb : Hid (LH u3 lb2 d S9 (fun k => k < w.heap.size ∨ (Value.slice ua rs.length uc).ownBlock = some k) rs (decide (0 < t.length))) := HLa.out.below hb
                have HOb : Hid (OS u3 w.heap.size (.slice ua rs.length uc) rs) := HOa.out.below hb
                have HKb : Hid (Keeps (fun k => k < w.heap.size) w u3) := HKa.out.trans (Keeps.of_below hb (fun k hk => Nat.lt_of_lt_of_le hk HKa.out.size))
                have HOT : Hid (Calls Try.prog _ _ _ _) := vothers u3 HLb.out HV9.out
                clear hb HSM HLa HOa HKa
                go_wp2_with fail
                refine HOT.out.mono ?_
                rintro e u4 ⟨rfl, hb⟩
                have HLc : Hid (LH u4 lb2 d S9 (fun k => k < w.heap.size ∨ (Value.slice ua rs.length uc).ownBlock = some k) rs (decide (0 < t.length))) := HLb.out.below hb
                have HOc : Hid (OS u4 w.heap.size (.slice ua rs.length uc) rs) := HOb.out.below hb
                have HKc : Hid (Keeps (fun k => k < w.heap.size) w u4) := HKb.out.trans (Keeps.of_below hb (fun k hk => Nat.lt_of_lt_of_le hk HKb.out.size))
                have HAD : Hid (Calls Try.prog _ _ _ _) := vadd (t := t) lastL u4 HLc.out HV9.out HKK9.out (fun r hr => by have := HR3.out r hr; omega) (by omega) (HTP9.out.b (by omega)) (by decide) (by have h9 := HTP9.out.len; have h8 : lastL.length = 4 := rfl; omega)
                clear hb HOT HLb HOb HKb
                go_wp2_with fail
                refine HAD.out.mono ?_
                rintro e u5 ⟨rfl, ⟨S5, a5, hl, hv⟩, hk⟩
                have HLd : Hid (LH u5 lb2 d S5 (fun k => k < w.heap.size ∨ (Value.slice ua rs.length uc).ownBlock = some k) (rs ++ [lastL]) false) := hl
                have HVd : Hid (LV S5 a5 (frs (rs ++ [lastL])) (frs (rs ++ [lastL])).length o 1048576) := hv
                have HOd : Hid (OS u5 w.heap.size (.slice ua rs.length uc) rs) := own_kept HOc.out (fun r hr => hk.block r (.inr hr))
                have HKd : Hid (Keeps (fun k => k < w.heap.size) w u5) := HKc.out.trans (hk.mono (fun k hk => .inl hk))
                have HTO : Hid (Calls Try.prog _ _ _ _) := vtorn u5 hl
                have HRD : Hid (Calls Try.prog _ _ _ _) := vread u5 hl hv
                clear hl hv hk HAD HLc HOc HKc
                go_wp2_with fail
                refine HTO.out.mono ?_
                rintro e u6 ⟨rfl, e6⟩
                have e7 := e6.symm
                subst e7
                clear e6 HTO
                go_wp2_with fail
                refine HRD.out.mono ?_
                rintro e u6 ⟨rfl, e6⟩
                have e7 := e6.symm
                subst e7
                clear e6 HRD
                have h52 : ∀ r ∈ rs ++ [lastL], r.length ≤ 5000 := mem_snoc_le (fun r hr => by have := HR3.out r hr; omega) (by decide)
                have hl52 : (rs ++ [lastL]).length ≤ 200 := by simp; omega
                have hpw := prs_whole h52 hl52
                have hfb2 : (frs (rs ++ [lastL])).length ≤ 20000 := by rw [frs_snoc, List.length_append, frm_len]; have h8 : lastL.length = 4 := rfl; omega
                have HPA0 := parse_any (frs (rs ++ [lastL])) u5 (by omega)
                rw [hpw] at HPA0
                have HPA : Hid (Calls Try.prog _ _ _ _) := HPA0
                have hms := mkT_sz (frs (rs ++ [lastL]))
                have H52 : Hid (∀ r ∈ rs ++ [lastL], r.length ≤ 5000) := h52
                have hrs1 : (rs ++ [lastL]).length = rs.length + 1 := by simp
                clear HPA0 hpw h52
                obtain ⟨rs2, hrs2⟩ : ∃ rs2, rs2 = rs ++ [lastL] := ⟨_, rfl⟩
                have HRS2 : Hid (rs2 = rs ++ [lastL]) := hrs2
                rw [← hrs2] at HPA hms H52 HVd HLd hl52 hfb2 hrs1
                rw [← hrs2]
                clear hrs2
                obtain ⟨fn, hfn⟩ : ∃ fn, fn = (frs rs2).length := ⟨_, rfl⟩
                obtain ⟨TX, hTX⟩ : ∃ TX, TX = mkT (frs rs2) := ⟨_, rfl⟩
                have HVe : Hid (LV S5 a5 (frs rs2 ++ []) fn o 1048576) := by unfold Hid; rw [List.append_nil, hfn]; exact HVd.out
                rw [← hfn] at HPA hms hfb2
                rw [← hTX] at HPA hms
                rw [← hTX]
                clear hTX hfn HVd
                go_wp2_with fail
                refine HPA.out.mono ?_
                rintro e u6 ⟨v6, rfl, hO6, hb⟩
                obtain ⟨a6, c6, rfl⟩ := hO6.shape
                rw [hrs1]
                have HLe : Hid (LH u6 lb2 d S5 (fun k => k < w.heap.size ∨ (Value.slice ua rs.length uc).ownBlock = some k) rs2 false) := HLd.out.below hb
                have HOe : Hid (OS u6 w.heap.size (.slice ua rs.length uc) rs) := HOd.out.below hb
                have HKe : Hid (Keeps (fun k => k < w.heap.size) w u6) := HKd.out.trans (Keeps.of_below hb (fun k hk => Nat.lt_of_lt_of_le hk HKd.out.size))
                have HOP2 : Hid (Calls Try.prog _ _ _ _) := hopen2 (t := []) u6 HLe.out HVe.out.rd.1 HVe.out.rd.2 H52.out hl52 (.inl rfl)
                clear hO6 hb HPA HLd HOd HKd
                go_wp2_with fail
                refine HOP2.out.mono ?_
                rintro e u7 ⟨lb7, rfl, hl, _, hb⟩
                have HLf : Hid (LH u7 lb7 d S5 (fun k => k < w.heap.size ∨ (Value.slice ua rs.length uc).ownBlock = some k) rs2 false) := hl
                have HOf : Hid (OS u7 w.heap.size (.slice ua rs.length uc) rs) := HOe.out.below hb
                have HKf : Hid (Keeps (fun k => k < w.heap.size) w u7) := HKe.out.trans (Keeps.of_below hb (fun k hk => Nat.lt_of_lt_of_le hk HKe.out.size))
                clear hl hb HOP2 HLe HOe HKe
                go_wp2_with fail
                refine (awake15_any u7).mono ?_
                rintro e u8 ⟨rfl, hb⟩
                have HLg : Hid (LH u8 lb7 d S5 (fun k => k < w.heap.size ∨ (Value.slice ua rs.length uc).ownBlock = some k) rs2 false) := HLf.out.below hb
                have HOg : Hid (OS u8 w.heap.size (.slice ua rs.length uc) rs) := HOf.out.below hb
                have HKg : Hid (Keeps (fun k => k < w.heap.size) w u8) := HKf.out.trans (Keeps.of_below hb (fun k hk => Nat.lt_of_lt_of_le hk HKf.out.size))
                have HTO : Hid (Calls Try.prog _ _ _ _) := vtorn u8 HLg.out
                have hsz8 : w.heap.size ≤ u8.heap.size := HKg.out.size
                clear hb HLf HOf HKf
                go_wp2_with fail
                refine HTO.out.mono ?_
                rintro e u9 ⟨rfl, e6⟩
                have e7 := e6.symm
                subst e7
                clear e6 HTO
                go_wp2_with (at_builtin; refine append_one_g (by rfl) _ _ rfl w.heap.size (.slice ua rs.length uc) rs lastL rfl rfl HOg.out (by omega) hsz8 ?_; intro va c' u10 hO10 hg10 hr10; have HLh : Hid (LH u10 lb7 d S5 (fun k => k < w.heap.size ∨ (Value.slice va (rs.length + 1) c').ownBlock = some k) rs2 false) := (HLg.out.grown hg10 (fun r hr => .inr hr)).less (fun k hk => by
                  rcases hk with hk | hk
                  · exact .inl (.inl hk)
                  · rcases hr10 k hk with h | h
                    · exact .inl (.inr h)
                    · exact .inr h); have HKh : Hid (Keeps (fun k => k < w.heap.size) w u10) := HKg.out.grown hg10 (fun k hk => Nat.lt_of_lt_of_le hk HKg.out.size) (fun k hk hn => by have := (HOg.out.lt k hk).1; omega); have HSN0 := hsame u10 HLh.out (u := .slice va (rs.length + 1) c') (want := rs2) ⟨by rw [HRS2.out]; exact hO10.mono (Nat.zero_le _), fun r hr => .inr hr⟩ (by omega) (by omega); rw [decide_eq_true rfl] at HSN0; have HSN : Hid (Calls Try.prog _ _ _ _) := HSN0; clear hO10 hg10 hr10 HSN0; go_wp2_with fail)
                refine HSN.out.mono ?_
                rintro e u11 ⟨rfl, hb⟩
                have HKi : Hid (Keeps (fun k => k < w.heap.size) w u11) := HKh.out.trans (Keeps.of_below hb (fun k hk => Nat.lt_of_lt_of_le hk HKh.out.size))
                clear hb HSN
                go_wp2
                go_ret
                exact ⟨rfl, HKi.out.below⟩
end Go.Proofs.Ytkaikjlklhcnlaa
