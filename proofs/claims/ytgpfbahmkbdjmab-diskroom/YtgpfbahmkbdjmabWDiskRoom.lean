/- The walk of DiskRoom. -/
import Derived.Test.YtgpfbahmkbdjmabDskP
import Derived.Test.YtgpfbahmkbdjmabDskS
namespace Go.Proofs.Ytgpfbahmkbdjmab
open Go.RowKit Go.Maps
set_option linter.unusedVariables false
set_option linter.unusedSimpArgs false

theorem conv_nm (i : Nat) (h : i < 30) (W : World) : (convert 44 9 (.slice (some ⟨W.heap.size, 0, none⟩) 1 1)).run Try.prog (W.alloc (.cells #[.int .u8 (97 + (i : Int))] 5)) = .ok (.string (mkT (nmI i))) (W.alloc (.cells #[.int .u8 (97 + (i : Int))] 5)) := by
  have e : cb (nmI i) = [.int .u8 (97 + (i : Int))] := by
    unfold cb nmI
    have : (UInt8.ofNat (97 + i)).toNat = 97 + i := by rw [UInt8.toNat_ofNat']; omega
    simp only [List.map_cons, List.map_nil, this]
    rw [show ((97 + i : Nat) : Int) = 97 + (i : Int) by omega]
  refine conv_cb (l := nmI i) ?_
  rw [e]
  exact ⟨rfl, .inr ⟨W.heap.size, 1, _, rfl, Nat.zero_le _, heap_alloc_new _ _, Nat.le_refl _, by decide, rfl, rfl⟩⟩
theorem make_z (n : Nat) (hn : n ≤ 2000) (W : World) : ∃ W', (Instr.makeSlice 44 (.int .i64 (n : Int)) (.int .i64 (n : Int))).run Try.prog W = .ok (.slice (some ⟨W.heap.size, 0, none⟩) n n) W' ∧ (convert 44 9 (.slice (some ⟨W.heap.size, 0, none⟩) n n)).run Try.prog W' = .ok (.string (mkT (List.replicate n 0))) W' ∧ Below W.heap.size W W' := by
  obtain ⟨i0, hi, hz0, hz1, hz2⟩ := info_parts Try.infoU8
  obtain ⟨w1, hmk, hown, hgr⟩ := run_makeSlice_full (P := Try.prog) (w := W) 0 44 5 i0 (.int .u8 0) 1 Try.underlying44 hi hz0 hz1 .i64 .i64 n (by omega) (by rw [hz2]; omega) (by unfold maxLen; omega) (Nat.zero_le _)
  refine ⟨w1, hmk, ?_, (Below.refl _ W).grown hgr (Nat.le_refl _) (fun k hk => by cases hk)⟩
  have e : (madeCells (Value.int .u8 0).cells (n * 1)).toList = cb (List.replicate n 0) := by
    rw [Nat.mul_one]
    show (madeCells #[.int .u8 0] n).toList = _
    rw [toList_madeCells_one]
    unfold cb
    rw [List.map_replicate]; rfl
  rw [e] at hown
  have := conv_cb (w := w1) (v := .slice (some ⟨W.heap.size, 0, none⟩) n n) (l := List.replicate n 0) (by rw [List.length_replicate]; exact hown)
  exact this
theorem append_z {d : Nat} {S : DS} {K : Nat → Prop} {gs : List Nat} (room : Int) (i used n : Nat) (w : World) (h : DK w d S K gs) (hR : RI room S i used) (hi : i < 30) (hn : n ≤ 2000) :
    Calls Try.prog 9 #[.pointer (some ⟨d, 0, none⟩), .string (mkT (nmI i)), .string (mkT (List.replicate n 0))] w fun e w' => e = .returned (.int .i64 (if room < (used : Int) + (n : Int) then 9 else 0)) ∧ (∃ g gs', DK w' d (apS S (nmI i) (List.replicate n 0) g) K gs' ∧ g ∉ gs ∧ ∀ k ∈ gs, k ∈ gs') ∧ Keeps K w w' := by
  have h1 := hR.len
  have h2 := hR.st
  have := append_any (nmI i) (List.replicate n 0) w h (by simp [nmI]) (by rw [List.length_replicate]; omega) (by omega) (by omega)
  rw [hR.apEq hi, List.length_replicate] at this
  exact this
theorem DK.mem' {w : World} {d : Nat} {S : DS} {K : Nat → Prop} {gs : List Nat} (h : DK w d S K gs) {p : List UInt8 × Nat} (hp : p ∈ S.now) : p.2 ∈ gs := by
  obtain ⟨_, _, _, _, h⟩ := h; exact (h.inN p hp).1
set_option maxRecDepth 100000 in
set_option maxHeartbeats 8000000 in
theorem lawDiskRoom_walk (room : Int) (a : Option Addr) (len cap : Nat) (zs : List Int) (w : World) (hr : -9223372036854775808 ≤ room ∧ room ≤ 9223372036854775807) (hk : IsRow .i64 w a len cap zs) :
    Calls Try.prog 6 #[.int .i64 room, .slice a len cap] w fun e w' => e = .returned (.bool true) ∧ Below w.heap.size w w' := by
  obtain ⟨hks, hkb⟩ := hk.ksl
  have hlen : (zs.take len).length = len := by
    obtain ⟨a', c', e, _⟩ := hks
    injection e with _ e2 _
    exact e2.symm
  have HKS : Hid (KSl w (.slice a len cap) (zs.take len)) := hks
  have HKB : Hid (0 < (zs.take len).length → ∀ r, (Value.slice a len cap).ownBlock = some r → r < w.heap.size) := hkb
  have hlen63 : len ≤ 9223372036854775807 := by obtain ⟨_, _, _, _, h, _⟩ := hks; omega
  clear hk hks hkb
  generalize zs.take len = ks at *
  by_cases ho : room < 0 ∨ 5000 < room
  · by_cases h1 : room < 0
    all_goals by_cases h2 : 5000 < room
    all_goals try (exfalso; omega)
    all_goals
      clear ho
      go_enter Try.func6, Try.ntmps6
      go_wp2_with fail
      refine (awake14_any w).mono ?_
      rintro e w2 ⟨rfl, hb2⟩
      have HB2 : Hid (Below w.heap.size w w2) := hb2
      clear hb2
      go_wp2
      go_ret
      exact ⟨rfl, HB2.out⟩
  have hr0 : ¬ room < 0 := by omega
  have hr1 : ¬ 5000 < room := by omega
  clear ho hr
  go_enter Try.func6, Try.ntmps6
  go_wp2_with fail
  refine (new_good room w (by omega) (by omega)).mono ?_
  rintro e w1 ⟨d, rfl, hd1, hb1⟩
  have HK1 : Hid (Keeps (fun k => k < w.heap.size) w w1) := Keeps.of_below hb1 (fun k hk => hk)
  have HD1 : Hid (DK w1 d (newS room) (fun k => k < w.heap.size) []) := hd1
  clear hd1 hb1
  go_wp2
  go_loopw [7, 8] (fun u v wr => ∃ (i used : Nat) (S : DS) (gs : List Nat), i ≤ len ∧ i ≤ 30 ∧ v = .int .i64 (i : Int) ∧ u = .int .i64 (used : Int) ∧ used ≤ 2000 * i ∧ RI room S i used ∧ DK wr d S (fun k => k < w.heap.size) gs ∧ Keeps (fun k => k < w.heap.size) w wr) (fun _ v _ => 30 - (intOf v).toNat)
  case atStart => exact ⟨0, 0, newS room, [], Nat.zero_le _, by omega, rfl, rfl, Nat.le_refl _, RI.new room, HD1.out, HK1.out⟩
  case round =>
    obtain ⟨i, used, S, gs, hi1, hi2, rfl, rfl, hus, hR, hd, hk⟩ := hrel
    have HD : Hid (DK wr d S (fun k => k < w.heap.size) gs) := hd
    have HK : Hid (Keeps (fun k => k < w.heap.size) w wr) := hk
    have HR : Hid (RI room S i used) := hR
    clear hd hk hR
    by_cases hgo : i < len ∧ i < 30
    · obtain ⟨hg1, hg2⟩ := hgo
      have hg1i : (i : Int) < (len : Int) := by omega
      have hg2i : (i : Int) < 30 := by omega
      have hi0 : (0 : Int) ≤ (i : Int) := by omega
      obtain ⟨a', cap', hav, _, _, hcell, hbd⟩ := HKS.out.keeps HK.out HKB.out
      obtain ⟨b, o, hab, _, hc⟩ := hcell i (by omega)
      obtain ⟨rfl, rfl⟩ : a = some ⟨b, o, none⟩ ∧ cap = cap' := by injection hav with e1 _ e3; exact ⟨e1.trans hab, e3⟩
      have hzb := hbd (ks.getD i 0) (by rw [List.getD_eq_getElem?_getD, List.getElem?_eq_getElem (by omega)]; exact List.getElem_mem _)
      clear hcell hbd hav hab
      generalize ks.getD i 0 = z at *
      by_cases hz0 : z < 0
      · go_wp2
        go_roundw
        case rel => exact ⟨i + 1, used, S, gs, by omega, by omega, by go_num, rfl, by omega, HR.out.up, HD.out, HK.out⟩
        case measure => simp [intOf]; omega
      by_cases hz1 : 2000 < z
      · go_wp2
        go_roundw
        case rel => exact ⟨i + 1, used, S, gs, by omega, by omega, by go_num, rfl, by omega, HR.out.up, HD.out, HK.out⟩
        case measure => simp [intOf]; omega
      obtain ⟨n, rfl⟩ := Int.eq_ofNat_of_zero_le (show 0 ≤ z by omega)
      have hn : n ≤ 2000 := by omega
      have hcv := conv_nm i hg2
      have hw8 : IntKind.u8.wrap (97 + (i : Int)) = 97 + (i : Int) := by rw [IntKind.wrap_u8]; omega
      obtain ⟨W1, hW1⟩ : ∃ W1, W1 = wr.alloc (.cells #[.int .u8 (97 + (i : Int))] 5) := ⟨_, rfl⟩
      have HB1 : Hid (Below wr.heap.size wr W1) := by rw [hW1]; exact (Below.refl _ _).alloc (Nat.le_refl _) _
      obtain ⟨W2, hmk, hcz, hb2⟩ := make_z n hn W1
      have HD2 : Hid (DK W2 d S (fun k => k < w.heap.size) gs) := (HD.out.below HB1.out).below hb2
      have HK2 : Hid (Keeps (fun k => k < w.heap.size) w W2) := (HK.out.trans (Keeps.of_below HB1.out HD.out.Kb)).trans (Keeps.of_below hb2 (HD.out.below HB1.out).Kb)
      have HAP : Hid (Calls _ _ _ _ _) := append_z room i used n W2 HD2.out HR.out hg2 hn
      have hwu : IntKind.i64.wrap ((used : Int) + (n : Int)) = (used : Int) + (n : Int) := by rw [IntKind.wrap_i64]; omega
      have hsz1 : W1.heap.size = wr.heap.size + 1 := by rw [hW1]; simp
      rw [hsz1] at hmk hcz
      rw [hW1] at hmk
      clear hb2 hsz1
      by_cases hfull : room < (used : Int) + (n : Int)
      · rw [if_pos hfull] at HAP
        have HFU : Hid (∀ g, apS S (nmI i) (List.replicate n 0) g = S) := fun g => HR.out.full hg2 (by rw [List.length_replicate]; exact hfull) g
        have HUS : Hid (Calls Try.prog _ _ _ _) := used_any W2 HD2.out (by have := HR.out.len; omega)
        go_wp2_with fail
        refine HAP.out.mono ?_
        rintro e w3 ⟨rfl, ⟨g3, gs3, hd3, _, _⟩, hk3⟩
        rw [HFU.out] at hd3
        have HD3 : Hid (DK w3 d S (fun k => k < w.heap.size) gs3) := hd3
        have HK3 : Hid (Keeps (fun k => k < w.heap.size) w w3) := HK2.out.trans hk3
        have HU3 : Hid (Calls Try.prog 16 #[.pointer (some ⟨d, 0, none⟩)] w3 fun e w' => e = .returned (.int .i64 (used : Int)) ∧ Below w3.heap.size w3 w') := by
          have := used_any w3 hd3 (by have := HR.out.len; omega)
          rw [HR.out.us] at this; exact this
        clear hd3 hk3 HAP HUS hmk hcz hcv
        go_wp2_with fail
        refine HU3.out.mono ?_
        rintro e w4 ⟨rfl, hb4⟩
        have HD4 : Hid (DK w4 d S (fun k => k < w.heap.size) gs3) := HD3.out.below hb4
        have HK4 : Hid (Keeps (fun k => k < w.heap.size) w w4) := HK3.out.trans (Keeps.of_below hb4 HD3.out.Kb)
        clear hb4 HU3
        go_wp2
        go_roundw
        case rel => exact ⟨i + 1, used, S, gs3, by omega, by omega, by go_num, rfl, by omega, HR.out.up, HD4.out, HK4.out⟩
        case measure => simp [intOf]; omega
      · rw [if_neg hfull] at HAP
        go_wp2_with fail
        refine HAP.out.mono ?_
        rintro e w3 ⟨rfl, ⟨g3, gs3, hd3, hng, hsub⟩, hk3⟩
        obtain ⟨hR3, hnow, hst, hu3⟩ := HR.out.app hg2 (d := List.replicate n 0) (by rw [List.length_replicate]; omega) g3 (fun p hp e => hng (e ▸ HD.out.mem' hp))
        rw [List.length_replicate] at hR3
        have HR3 : Hid (RI room (apS S (nmI i) (List.replicate n 0) g3) (i + 1) (used + n)) := hR3
        have HRM : Hid _ := hR3.rm hnow (HR.out.lkn hg2) hu3 hst
        have hln := hR3.len
        have hls := hR3.st
        generalize apS S (nmI i) (List.replicate n 0) g3 = S3 at *
        have HD3 : Hid (DK w3 d S3 (fun k => k < w.heap.size) gs3) := hd3
        have HK3 : Hid (Keeps (fun k => k < w.heap.size) w w3) := HK2.out.trans hk3
        have HU3 : Hid (Calls Try.prog 16 #[.pointer (some ⟨d, 0, none⟩)] w3 fun e w' => e = .returned (.int .i64 ((used + n : Nat) : Int)) ∧ Below w3.heap.size w3 w') := by
          have := used_any w3 hd3 (by omega)
          rw [HR3.out.us] at this; exact this
        obtain ⟨U, hU⟩ : ∃ U, U = used + n := ⟨_, rfl⟩
        rw [← hU] at HU3 HR3
        have hcast : (used : Int) + (n : Int) = (U : Int) := by omega
        have hUn : IntKind.i64.wrap ((U : Int) - (n : Int)) = (used : Int) := by rw [IntKind.wrap_i64]; omega
        have hUn2 : (U : Int) - (n : Int) = (used : Int) := by omega
        have hUb : U ≤ 2000 * (i + 1) := by omega
        have hUU : ((U : Int) == (U : Int)) = true := by simp
        have HUU : Hid (U = used + n) := hU
        clear hd3 hk3 HAP hmk hcz hcv hR3 hnow hst hu3 hng hsub hU
        go_wp2_with fail
        refine HU3.out.mono ?_
        rintro e w4 ⟨rfl, hb4⟩
        have HD4 : Hid (DK w4 d S3 (fun k => k < w.heap.size) gs3) := HD3.out.below hb4
        have HK4 : Hid (Keeps (fun k => k < w.heap.size) w w4) := HK3.out.trans (Keeps.of_below hb4 HD3.out.Kb)
        clear hb4 HU3
        by_cases h3 : i % 3 = 2
        · have h3i : ((i : Int).tmod 3 == 2) = true := by rw [beq_iff_eq, Int.tmod_eq_emod_of_nonneg (by omega)]; omega
          have HREM : Hid (Calls Try.prog _ _ _ _) := remove_any (nmI i) w4 HD4.out (by simp [nmI]) (by omega) (by omega)
          go_wp2_with fail
          refine HREM.out.mono ?_
          rw [HRM.out.1]
          rintro e w5 ⟨rfl, hd5, hk5⟩
          have HD5 : Hid (DK w5 d (rmS S3 (nmI i)) (fun k => k < w.heap.size) gs3) := hd5
          have HK5 : Hid (Keeps (fun k => k < w.heap.size) w w5) := HK4.out.trans hk5
          clear hd5 hk5 HREM
          go_wp2
          go_roundw
          case rel => exact ⟨i + 1, used, rmS S3 (nmI i), gs3, by omega, by omega, by go_num, rfl, by omega, HRM.out.2, HD5.out, HK5.out⟩
          case measure => simp [intOf]; omega
        · have h3i : ((i : Int).tmod 3 == 2) = false := by rw [beq_eq_false_iff_ne, Int.tmod_eq_emod_of_nonneg (by omega)]; omega
          go_wp2
          go_roundw
          case rel => exact ⟨i + 1, U, S3, gs3, by omega, by omega, by go_num, rfl, by omega, HR3.out, HD4.out, HK4.out⟩
          case measure => simp [intOf]; omega
    · have hex : i = len ∨ i = 30 := by omega
      have HA : Hid (Calls Try.prog _ _ _ _) := awake14_any wr
      have hln := HR.out.len
      rcases Nat.lt_or_ge i len with h1 | h1
      · have h1i : (i : Int) < (len : Int) := by omega
        have h2i : ¬ (i : Int) < 30 := by omega
        go_wp2_with fail
        refine HA.out.mono ?_
        rintro e w4 ⟨rfl, hb4⟩
        have HU4 : Hid (Calls Try.prog 16 #[.pointer (some ⟨d, 0, none⟩)] w4 fun e w' => e = .returned (.int .i64 (used : Int)) ∧ Below w4.heap.size w4 w') := by
          have := used_any w4 (HD.out.below hb4) (by omega)
          rw [HR.out.us] at this; exact this
        have HK4 : Hid (Keeps (fun k => k < w.heap.size) w w4) := HK.out.trans (Keeps.of_below hb4 HD.out.Kb)
        clear hb4 HA
        go_wp2_with fail
        refine HU4.out.mono ?_
        rintro e w5 ⟨rfl, hb5⟩
        have HB5 : Hid (Below w.heap.size w w5) := (HK4.out.trans (Keeps.of_below hb5 (fun k hk => Nat.lt_of_lt_of_le hk HK4.out.size))).below
        clear hb5
        go_wp2
        go_ret
        exact ⟨by simp, HB5.out⟩
      · have h1i : ¬ (i : Int) < (len : Int) := by omega
        go_wp2_with fail
        refine HA.out.mono ?_
        rintro e w4 ⟨rfl, hb4⟩
        have HU4 : Hid (Calls Try.prog 16 #[.pointer (some ⟨d, 0, none⟩)] w4 fun e w' => e = .returned (.int .i64 (used : Int)) ∧ Below w4.heap.size w4 w') := by
          have := used_any w4 (HD.out.below hb4) (by omega)
          rw [HR.out.us] at this; exact this
        have HK4 : Hid (Keeps (fun k => k < w.heap.size) w w4) := HK.out.trans (Keeps.of_below hb4 HD.out.Kb)
        clear hb4 HA
        go_wp2_with fail
        refine HU4.out.mono ?_
        rintro e w5 ⟨rfl, hb5⟩
        have HB5 : Hid (Below w.heap.size w w5) := (HK4.out.trans (Keeps.of_below hb5 (fun k hk => Nat.lt_of_lt_of_le hk HK4.out.size))).below
        clear hb5
        go_wp2
        go_ret
        exact ⟨by simp, HB5.out⟩
end Go.Proofs.Ytgpfbahmkbdjmab
