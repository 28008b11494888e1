/- The walk of WalkFull. (Written by wip/wwkf.py.) -/
import Derived.Test.YtdgicclmjloigaaDoorWkH
namespace Go.Proofs.YtdgicclmjloigaaDoor
open Go.RowKit Go.Maps
set_option linter.unusedVariables false
set_option linter.unusedSimpArgs false

theorem full_ib (sz n : Nat) (hs : sz ≤ 32800) : ItB (fullL sz n) := by
  intro x hx
  unfold fullL at hx
  rcases List.mem_cons.1 hx with rfl | hx
  · exact ⟨by simp [zzI], by simp [zzI]; omega⟩
  · obtain ⟨i, _, rfl⟩ := List.mem_map.1 hx
    exact ⟨by simp [dI], by simp [dI]⟩
set_option maxRecDepth 100000 in
set_option maxHeartbeats 8000000 in
theorem lawWalkFull_walk (n size : Int) (w : World) (hn : -9223372036854775808 ≤ n ∧ n ≤ 9223372036854775807) (hz : -9223372036854775808 ≤ size ∧ size ≤ 9223372036854775807) (hL : Lay11 w) :
    Calls Tryd.prog 5 #[.int .i64 n, .int .i64 size] w fun e w' => e = .returned (.bool true) ∧ Below w.heap.size w w' := by
  by_cases h1 : n < 0
  · clear hn hz
    go_enter Tryd.func5, Tryd.ntmps5
    go_wp2_with fail
    refine (awake13_any w hL).mono ?_
    rintro e w2 ⟨rfl, hb2⟩
    have HB2 : Hid (Below w.heap.size w w2) := hb2
    clear hb2
    go_wp2
    go_ret
    exact ⟨rfl, HB2.out⟩
  by_cases h2 : 260 < n
  · clear hn hz
    go_enter Tryd.func5, Tryd.ntmps5
    go_wp2_with fail
    refine (awake13_any w hL).mono ?_
    rintro e w2 ⟨rfl, hb2⟩
    have HB2 : Hid (Below w.heap.size w w2) := hb2
    clear hb2
    go_wp2
    go_ret
    exact ⟨rfl, HB2.out⟩
  by_cases h3 : size < 0
  · clear hn hz
    go_enter Tryd.func5, Tryd.ntmps5
    go_wp2_with fail
    refine (awake13_any w hL).mono ?_
    rintro e w2 ⟨rfl, hb2⟩
    have HB2 : Hid (Below w.heap.size w w2) := hb2
    clear hb2
    go_wp2
    go_ret
    exact ⟨rfl, HB2.out⟩
  by_cases h4 : 32800 < size
  · clear hn hz
    go_enter Tryd.func5, Tryd.ntmps5
    go_wp2_with fail
    refine (awake13_any w hL).mono ?_
    rintro e w2 ⟨rfl, hb2⟩
    have HB2 : Hid (Below w.heap.size w w2) := hb2
    clear hb2
    go_wp2
    go_ret
    exact ⟨rfl, HB2.out⟩
  obtain ⟨n, rfl⟩ := Int.eq_ofNat_of_zero_le (show 0 ≤ n by omega)
  obtain ⟨sz, rfl⟩ := Int.eq_ofNat_of_zero_le (show 0 ≤ size by omega)
  have hn2 : n ≤ 260 := by omega
  have hs2 : sz ≤ 32800 := by omega
  clear hn hz
  have hzo := zeroIt
  obtain ⟨w0, hmk, hcv, hb0⟩ := make_zB sz (by omega) w
  have HIO0 : Hid (IO (w0.alloc (.cells (itV (zzI sz)) 25)) w0.heap.size (.slice (some ⟨w0.heap.size, 0, none⟩) 1 1) [zzI sz]) := IO.made w0 (zzI sz)
  have HB0 : Hid (Below w.heap.size w (w0.alloc (.cells (itV (zzI sz)) 25))) := hb0.alloc hb0.size _
  have hsz0 : w.heap.size ≤ w0.heap.size := hb0.size
  have HZV : Hid (itV (zzI sz) = #[.string ⟨#[122, 122]⟩, .int .i64 2, .int .i64 0, .int .i64 0, .string (mkB (List.replicate sz 0))]) := rfl
  rw [HZV.out] at HIO0 HB0
  clear hb0
  go_enter Tryd.func5, Tryd.ntmps5
  go_wp2
  go_loopw [5, 6] (fun u v wr => ∃ (i : Nat), i ≤ n ∧ v = .int .i64 (i : Int) ∧ IO wr w.heap.size u (fullL sz i) ∧ Below w.heap.size w wr) (fun _ v _ => n - (intOf v).toNat)
  case atStart => exact ⟨0, Nat.zero_le _, rfl, ⟨HIO0.out.1, by
    rcases HIO0.out.2 with h | ⟨g, c, cur, h1, h2, h3⟩
    · exact .inl h
    · exact .inr ⟨g, c, cur, h1, Nat.le_trans hsz0 h2, h3⟩⟩, HB0.out⟩
  case round =>
    obtain ⟨i, hi, rfl, ho, hb⟩ := hrel
    obtain ⟨ua, uc, rfl⟩ := ho.shape
    rw [fullL_len] at ho
    have HO : Hid (IO wr w.heap.size (.slice ua (i + 1) uc) (fullL sz i)) := ho
    have HB : Hid (Below w.heap.size w wr) := hb
    rw [fullL_len]
    clear ho hb HIO0 HB0 hmk hcv
    by_cases hlt : i < n
    · have hlti : (i : Int) < (n : Int) := by omega
      obtain ⟨q, hq⟩ : ∃ q, q = i / 26 := ⟨_, rfl⟩
      obtain ⟨r, hr⟩ : ∃ r, r = i % 26 := ⟨_, rfl⟩
      have hqi : (i : Int).tdiv 26 = (q : Int) := by rw [hq, Int.tdiv_eq_ediv_of_nonneg (by omega)]; omega
      have hri : (i : Int).tmod 26 = (r : Int) := by rw [hr, Int.tmod_eq_emod_of_nonneg (by omega)]; omega
      have hq9 : q ≤ 10 := by omega
      have hr9 : r ≤ 25 := by omega
      have hqt : ((UInt8.ofNat (97 + q)).toNat : Int) = 97 + (q : Int) := by rw [UInt8.toNat_ofNat']; omega
      have hrt : ((UInt8.ofNat (97 + r)).toNat : Int) = 97 + (r : Int) := by rw [UInt8.toNat_ofNat']; omega
      have hct := conv_two (UInt8.ofNat (97 + q)) (UInt8.ofNat (97 + r))
      rw [hqt, hrt] at hct
      have HIV : Hid (itV (dI i) = #[.string (mkB [UInt8.ofNat (97 + q), UInt8.ofNat (97 + r)]), .int .i64 1, .int .i64 0, .int .i64 0, .string ⟨#[]⟩]) := by unfold Hid; rw [hq, hr]; rfl
      generalize mkB [UInt8.ofNat (97 + q), UInt8.ofNat (97 + r)] = PT at *
      obtain ⟨W2, hW2⟩ : ∃ W2, W2 = wr.alloc (.cells #[.int .u8 (97 + (q : Int)), .int .u8 (97 + (r : Int))] 5) := ⟨_, rfl⟩
      have hb2 : Below wr.heap.size wr W2 := by rw [hW2]; exact (Below.refl _ _).alloc (Nat.le_refl _) _
      have HO2 : Hid (IO W2 w.heap.size (.slice ua (i + 1) uc) (fullL sz i)) := HO.out.below hb2
      have HB2 : Hid (Below w.heap.size w W2) := HB.out.trans (hb2.mono HB.out.size)
      have hsz2 : w.heap.size ≤ W2.heap.size := HB2.out.size
      have HW2 : Hid (wr.alloc (.cells #[.int .u8 (97 + (q : Int)), .int .u8 (97 + (r : Int))] 5) = W2) := hW2.symm
      have HLN : Hid ((fullL sz i).length = i + 1) := fullL_len sz i
      have HSZ : Hid (W2.heap.size = wr.heap.size + 1) := by unfold Hid; rw [hW2]; simp
      clear hq hr hqt hrt hb2 hW2
      go_wp2_with (at_builtin; rw [show wr.alloc (.cells #[.int .u8 (97 + (q : Int)), .int .u8 (97 + (r : Int))] 5) = W2 from HW2.out, ← HIV.out]; refine append_it rfl _ _ rfl w.heap.size (.slice ua (i + 1) uc) (fullL sz i) (dI i) rfl (by rw [HSZ.out]; rfl) HO2.out (by rw [HLN.out]; omega) hsz2 ?_; rw [HLN.out]; intro a' c' w3 hO3 hg3)
      have HO3 : Hid (IO w3 w.heap.size (.slice a' (i + 1 + 1) c') (fullL sz (i + 1))) := by unfold Hid; rw [fullL_succ]; exact hO3
      have HB3 : Hid (Below w.heap.size w w3) := HB2.out.grown hg3 hsz2 (fun k hk => (HO2.out.lt k hk).1)
      clear hO3 hg3
      go_wp2
      go_roundw
      case rel => exact ⟨i + 1, by omega, by go_num, HO3.out, HB3.out⟩
      case measure => simp [intOf]; omega
    · have hlti : ¬ (i : Int) < (n : Int) := by omega
      obtain rfl : i = n := by omega
      have HIB : Hid (ItB (fullL sz i)) := full_ib sz i hs2
      by_cases hb1 : 200 < i + 1
      · have hb1i : (200 : Int) < (i : Int) + 1 := by omega
        have HLy : Hid (Lay11 wr) := hL.below HB.out
        go_wp2_with fail
        refine (awake13_any wr HLy.out).mono ?_
        rintro e w2 ⟨rfl, hb2⟩
        have HB2 : Hid (Below w.heap.size w w2) := HB.out.trans (hb2.mono HB.out.size)
        have HCK : Hid (Calls Tryd.prog _ _ _ _) := check_any (.slice ua (i + 1) uc) (fullL sz i) w2 (by have := (HO.out.below hb2).iv; exact this) HIB.out (HLy.out.below hb2) (by rw [fullL_len]; omega)
        clear hb2
        go_wp2_with fail
        refine HCK.out.mono ?_
        rintro e w3 ⟨z, rfl, hz, hb3⟩
        have HB3 : Hid (Below w.heap.size w w3) := HB2.out.trans (hb3.mono HB2.out.size)
        have hzv := chk_full (by omega) hz
        rw [if_pos (.inl hb1)] at hzv
        clear hz hb3 HCK
        subst hzv
        go_wp2
        go_ret
        exact ⟨rfl, HB3.out⟩
      · have hb1i : ¬ (200 : Int) < (i : Int) + 1 := by omega
        by_cases hb2 : 32768 < sz
        · have hb2i : (32768 : Int) < (sz : Int) := by omega
          have HLy : Hid (Lay11 wr) := hL.below HB.out
          go_wp2_with fail
          refine (awake13_any wr HLy.out).mono ?_
          rintro e w2 ⟨rfl, hb2⟩
          have HB2 : Hid (Below w.heap.size w w2) := HB.out.trans (hb2.mono HB.out.size)
          have HCK : Hid (Calls Tryd.prog _ _ _ _) := check_any (.slice ua (i + 1) uc) (fullL sz i) w2 (by have := (HO.out.below hb2).iv; exact this) HIB.out (HLy.out.below hb2) (by rw [fullL_len]; omega)
          clear hb2
          go_wp2_with fail
          refine HCK.out.mono ?_
          rintro e w3 ⟨z, rfl, hz, hb3⟩
          have HB3 : Hid (Below w.heap.size w w3) := HB2.out.trans (hb3.mono HB2.out.size)
          have hzv := chk_full (by omega) hz
          rw [if_pos (.inr hb2)] at hzv
          clear hz hb3 HCK
          subst hzv
          go_wp2
          go_ret
          exact ⟨rfl, HB3.out⟩
        · have hb2i : ¬ (32768 : Int) < (sz : Int) := by omega
          have HLy : Hid (Lay11 wr) := hL.below HB.out
          go_wp2_with fail
          refine (awake13_any wr HLy.out).mono ?_
          rintro e w2 ⟨rfl, hb2⟩
          have HB2 : Hid (Below w.heap.size w w2) := HB.out.trans (hb2.mono HB.out.size)
          have HCK : Hid (Calls Tryd.prog _ _ _ _) := check_any (.slice ua (i + 1) uc) (fullL sz i) w2 (by have := (HO.out.below hb2).iv; exact this) HIB.out (HLy.out.below hb2) (by rw [fullL_len]; omega)
          clear hb2
          go_wp2_with fail
          refine HCK.out.mono ?_
          rintro e w3 ⟨z, rfl, hz, hb3⟩
          have HB3 : Hid (Below w.heap.size w w3) := HB2.out.trans (hb3.mono HB2.out.size)
          have hzv := chk_full (by omega) hz
          rw [if_neg (by omega)] at hzv
          clear hz hb3 HCK
          subst hzv
          go_wp2
          go_ret
          exact ⟨rfl, HB3.out⟩
end Go.Proofs.YtdgicclmjloigaaDoor
