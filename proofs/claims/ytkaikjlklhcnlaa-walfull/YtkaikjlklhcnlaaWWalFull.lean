/- The walk of WalFull. (Written by wip/wwf.py.) -/
import Derived.Test.YtkaikjlklhcnlaaWalJ
import Derived.Laws.MakeOwn
namespace Go.Proofs.Ytkaikjlklhcnlaa
open Go.RowKit Go.Maps
set_option linter.unusedVariables false
set_option linter.unusedSimpArgs false

theorem make_z (n : Nat) (hn : n ≤ 100000) (W : World) : ∃ W', (Instr.makeSlice 55 (.int .i64 (n : Int)) (.int .i64 (n : Int))).run Try.prog W = .ok (.slice (some ⟨W.heap.size, 0, none⟩) n n) W' ∧ (convert 55 9 (.slice (some ⟨W.heap.size, 0, none⟩) n n)).run Try.prog W' = .ok (.string (mkT (List.replicate n 0))) W' ∧ Below W.heap.size W W' := by
  obtain ⟨i0, hi, hz0, hz1, hz2⟩ := info_parts Try.infoU8
  obtain ⟨w1, hmk, hown, hgr⟩ := run_makeSlice_full (P := Try.prog) (w := W) 0 55 5 i0 (.int .u8 0) 1 Try.underlying55 hi hz0 hz1 .i64 .i64 n (by omega) (by rw [hz2]; omega) (by unfold maxLen; omega) (Nat.zero_le _)
  refine ⟨w1, hmk, ?_, (Below.refl _ W).grown hgr (Nat.le_refl _) (fun k hk => by cases hk)⟩
  have e : (madeCells (Value.int .u8 0).cells (n * 1)).toList = cb (List.replicate n 0) := by
    rw [Nat.mul_one]
    show (madeCells #[.int .u8 0] n).toList = _
    rw [toList_madeCells_one]
    unfold cb
    rw [List.map_replicate]; rfl
  rw [e] at hown
  have := conv_cb (w := w1) (v := .slice (some ⟨W.heap.size, 0, none⟩) n n) (l := List.replicate n 0) (by rw [List.length_replicate]; exact hown)
  exact this
/-- The records that the law has added by now. -/
structure FI (rs : List (List UInt8)) (i sz : Nat) : Prop where
  len : rs.length = if sz ≤ 5000 then min i 200 else 0
  all : ∀ r ∈ rs, r.length ≤ sz ∧ r.length ≤ 5000
theorem FI.bd {rs : List (List UInt8)} {i sz n : Nat} (h : FI rs i sz) (hi : i ≤ n) (hn : n ≤ 210) (hns : n * sz ≤ 20000) : (frs rs).length ≤ 21680 := by
  have h1 := frs_bd (fun r hr => (h.all r hr).1)
  have h2 : rs.length ≤ n := by have := h.len; split at this <;> omega
  have h3 : rs.length * (sz + 8) ≤ n * (sz + 8) := Nat.mul_le_mul h2 (Nat.le_refl _)
  have h4 : n * (sz + 8) = n * sz + n * 8 := Nat.mul_add _ _ _
  omega
theorem FI.step {rs : List (List UInt8)} {i sz : Nat} (h : FI rs i sz) (hs : sz ≤ 5000) (hi : i < 200) : FI (rs ++ [List.replicate sz 0]) (i + 1) sz := by
  refine ⟨?_, fun r hr => ?_⟩
  · have := h.len
    rw [if_pos hs] at this ⊢
    simp; omega
  · rcases List.mem_append.1 hr with hr | hr
    · exact h.all r hr
    · rw [List.mem_singleton] at hr; subst hr; simp; exact hs
theorem FI.stay {rs : List (List UInt8)} {i sz : Nat} (h : FI rs i sz) (hs : ¬ (sz ≤ 5000 ∧ i < 200)) : FI rs (i + 1) sz := by
  refine ⟨?_, h.all⟩
  have := h.len
  split at this
  · rw [if_pos (by assumption)]; omega
  · rw [if_neg (by assumption)]; exact this
theorem play_big {lb d : Nat} {S : DS} {T : Fo} {a : Nat} {B : List UInt8} {o : Nat} {room : Int} {N B0 : Nat} {rs : List (List UInt8)} {tn : Bool} (s : List UInt8) (w : World) (h : LS w lb d S T a B o room N B0 rs tn) (hs : 5000 < s.length) (hs2 : s.length ≤ 1099511627776) :
    Calls Try.prog 19 #[.pointer (some ⟨lb, 0, none⟩), .string (mkT s)] w fun e w' => e = .returned (.int .i64 2) ∧ Below w.heap.size w w' := by
  obtain ⟨⟨K, gs, ⟨_, v, hg⟩, _⟩, _, _⟩ := h
  refine (add_big s w hg hs hs2).mono ?_
  rintro e w1 ⟨rfl, rfl⟩
  exact ⟨rfl, Below.refl _ _⟩
theorem play_full {lb d : Nat} {S : DS} {T : Fo} {a : Nat} {o : Nat} {room : Int} {N B0 : Nat} {rs rs' : List (List UInt8)} {tn : Bool} (s : List UInt8) (w : World) (h : LS w lb d S T a (frs rs) o room N B0 rs' tn) (h5 : ∀ r ∈ rs, r.length ≤ 5000) (h2 : rs.length = 200) (hs : s.length ≤ 5000) :
    Calls Try.prog 19 #[.pointer (some ⟨lb, 0, none⟩), .string (mkT s)] w fun e w' => e = .returned (.int .i64 2) ∧ Below w.heap.size w w' := by
  obtain ⟨⟨K, gs, hld, _⟩, hlw, _⟩ := h
  exact add_full s w hld hs hlw.rd.1 (by rw [hlw.rd.2, prs_whole h5 (by omega)]; exact h2)
set_option maxRecDepth 100000 in
set_option maxHeartbeats 8000000 in
theorem lawWalFull_walk (n size room : Int) (w : World) (hn : -9223372036854775808 ≤ n ∧ n ≤ 9223372036854775807) (hz : -9223372036854775808 ≤ size ∧ size ≤ 9223372036854775807) (hr : -9223372036854775808 ≤ room ∧ room ≤ 9223372036854775807) :
    Calls Try.prog 7 #[.int .i64 n, .int .i64 size, .int .i64 room] w fun e w' => e = .returned (.bool true) ∧ Below w.heap.size w w' := by
  by_cases h1 : n < 0
  · clear hn hz hr
    go_enter Try.func7, Try.ntmps7
    go_wp2_with fail
    refine (awake15_any w).mono ?_
    rintro e w2 ⟨rfl, hb2⟩
    have HB2 : Hid (Below w.heap.size w w2) := hb2
    clear hb2
    go_wp2
    go_ret
    exact ⟨rfl, HB2.out⟩
  by_cases h2 : 210 < n
  · clear hn hz hr
    go_enter Try.func7, Try.ntmps7
    go_wp2_with fail
    refine (awake15_any w).mono ?_
    rintro e w2 ⟨rfl, hb2⟩
    have HB2 : Hid (Below w.heap.size w w2) := hb2
    clear hb2
    go_wp2
    go_ret
    exact ⟨rfl, HB2.out⟩
  by_cases h3 : size < 0
  · clear hn hz hr
    go_enter Try.func7, Try.ntmps7
    go_wp2_with fail
    refine (awake15_any w).mono ?_
    rintro e w2 ⟨rfl, hb2⟩
    have HB2 : Hid (Below w.heap.size w w2) := hb2
    clear hb2
    go_wp2
    go_ret
    exact ⟨rfl, HB2.out⟩
  by_cases h4 : 5001 < size
  · clear hn hz hr
    go_enter Try.func7, Try.ntmps7
    go_wp2_with fail
    refine (awake15_any w).mono ?_
    rintro e w2 ⟨rfl, hb2⟩
    have HB2 : Hid (Below w.heap.size w w2) := hb2
    clear hb2
    go_wp2
    go_ret
    exact ⟨rfl, HB2.out⟩
  obtain ⟨n, rfl⟩ := Int.eq_ofNat_of_zero_le (show 0 ≤ n by omega)
  obtain ⟨sz, rfl⟩ := Int.eq_ofNat_of_zero_le (show 0 ≤ size by omega)
  have hn2 : n ≤ 210 := by omega
  have hs2 : sz ≤ 5001 := by omega
  obtain ⟨p, hp⟩ : ∃ p, n * sz = p := ⟨_, rfl⟩
  have HP : Hid (n * sz = p) := hp
  have hpb : p ≤ 1050210 := by rw [← hp]; exact Nat.mul_le_mul hn2 hs2
  have hpi : (n : Int) * (sz : Int) = (p : Int) := by rw [← hp]; simp
  clear hp hn hz
  by_cases h5 : 20000 < p
  · have h5i : (20000 : Int) < (p : Int) := by omega
    clear hr
    go_enter Try.func7, Try.ntmps7
    go_wp2_with fail
    refine (awake15_any w).mono ?_
    rintro e w2 ⟨rfl, hb2⟩
    have HB2 : Hid (Below w.heap.size w w2) := hb2
    clear hb2
    go_wp2
    go_ret
    exact ⟨rfl, HB2.out⟩
  have h5i : ¬ (20000 : Int) < (p : Int) := by omega
  by_cases h6 : room < 0
  · clear hr
    go_enter Try.func7, Try.ntmps7
    go_wp2_with fail
    refine (awake15_any w).mono ?_
    rintro e w2 ⟨rfl, hb2⟩
    have HB2 : Hid (Below w.heap.size w w2) := hb2
    clear hb2
    go_wp2
    go_ret
    exact ⟨rfl, HB2.out⟩
  by_cases h7 : 3000 < room
  · clear hr
    go_enter Try.func7, Try.ntmps7
    go_wp2_with fail
    refine (awake15_any w).mono ?_
    rintro e w2 ⟨rfl, hb2⟩
    have HB2 : Hid (Below w.heap.size w w2) := hb2
    clear hb2
    go_wp2
    go_ret
    exact ⟨rfl, HB2.out⟩
  obtain ⟨rm, rfl⟩ := Int.eq_ofNat_of_zero_le (show 0 ≤ room by omega)
  have hrm : rm ≤ 3000 := by omega
  obtain ⟨m, hm⟩ : ∃ m, m = min sz 5000 := ⟨_, rfl⟩
  have hmi : min (sz : Int) 5000 = (m : Int) := by omega
  have hm5 : m ≤ 5000 := by omega
  clear hm hr
  go_enter Try.func7, Try.ntmps7
  go_wp2_with fail
  refine (start_any 1048576 w (by decide) (by decide)).mono ?_
  rintro e w1 ⟨lb, d, S0, a1, o, rfl, hls, hb1⟩
  have HLS0 : Hid (LS w1 lb d S0 [] a1 [] o 1048576 0 w.heap.size [] false) := hls
  have HK0 : Hid (Keeps (fun k => k < w.heap.size) w w1) := Keeps.of_below hb1 (fun k hk => hk)
  clear hls hb1
  go_wp2
  go_loopw [9] (fun v wr => ∃ (i : Nat) (rs : List (List UInt8)) (S : DS) (a : Nat), i ≤ n ∧ v = .int .i64 (i : Int) ∧ FI rs i sz ∧ LS wr lb d S [] a (frs rs) o 1048576 0 w.heap.size rs false ∧ Keeps (fun k => k < w.heap.size) w wr) (fun v _ => n - (intOf v).toNat)
  case atStart => exact ⟨0, [], S0, a1, Nat.zero_le _, rfl, ⟨by simp, fun r hr => by (cases hr)⟩, HLS0.out, HK0.out⟩
  case round =>
    obtain ⟨i, rs, S, a, hi1, rfl, hfi, hls, hk⟩ := hrel
    have HLS : Hid (LS wr lb d S [] a (frs rs) o 1048576 0 w.heap.size rs false) := hls
    have HK : Hid (Keeps (fun k => k < w.heap.size) w wr) := hk
    have HFI : Hid (FI rs i sz) := hfi
    clear hls hk hfi HLS0 HK0
    by_cases hgo : i < n
    · have hgi : (i : Int) < (n : Int) := by omega
      obtain ⟨w2, hmk, hcv, hb2⟩ := make_z sz (by omega) wr
      have HLS2 : Hid (LS w2 lb d S [] a (frs rs) o 1048576 0 w.heap.size rs false) := HLS.out.below hb2
      have HK2 : Hid (Keeps (fun k => k < w.heap.size) w w2) := HK.out.trans (Keeps.of_below hb2 (fun k hk => Nat.lt_of_lt_of_le hk HK.out.size))
      clear hb2
      by_cases hs5 : 5000 < sz
      · have hsi : (5000 : Int) < (sz : Int) := by omega
        have HA : Hid (Calls Try.prog _ _ _ _) := play_big (List.replicate sz 0) w2 HLS2.out (by rw [List.length_replicate]; exact hs5) (by rw [List.length_replicate]; omega)
        generalize mkT (List.replicate sz 0) = Z at *
        go_wp2_with fail
        refine HA.out.mono ?_
        rintro e w3 ⟨rfl, hb3⟩
        have HLS3 : Hid (LS w3 lb d S [] a (frs rs) o 1048576 0 w.heap.size rs false) := HLS2.out.below hb3
        have HK3 : Hid (Keeps (fun k => k < w.heap.size) w w3) := HK2.out.trans (Keeps.of_below hb3 (fun k hk => Nat.lt_of_lt_of_le hk HK2.out.size))
        clear hb3 HA
        go_wp2
        go_roundw
        case rel => exact ⟨i + 1, rs, S, a, by omega, by go_num, HFI.out.stay (by omega), HLS3.out, HK3.out⟩
        case measure => simp [intOf]; omega
      · have hsi : ¬ (5000 : Int) < (sz : Int) := by omega
        by_cases hi2 : i < 200
        · have hi2i : ¬ (200 : Int) ≤ (i : Int) := by omega
          have hfb := HFI.out.bd hi1 hn2 (by rw [HP.out]; omega)
          have hfl : rs.length < 200 := by have := HFI.out.len; split at this <;> omega
          have HA : Hid (Calls Try.prog _ _ _ _) := play_add (List.replicate sz 0) w2 HLS2.out (fun r hr => (HFI.out.all r hr).2) hfl (by rw [List.length_replicate]; omega) (by rw [List.length_replicate]; omega)
          clear hfb hfl
          generalize hZ : mkT (List.replicate sz 0) = Z at *
          clear hZ
          go_wp2_with fail
          refine HA.out.mono ?_
          rintro e w3 ⟨rfl, ⟨S3, hls3⟩, hk3⟩
          have HLS3 : Hid _ := hls3
          have HK3 : Hid (Keeps (fun k => k < w.heap.size) w w3) := HK2.out.trans hk3
          clear hls3 hk3 HA
          go_wp2
          go_roundw
          case rel => exact ⟨i + 1, rs ++ [List.replicate sz 0], S3, a, by omega, by go_num, HFI.out.step (by omega) hi2, HLS3.out, HK3.out⟩
          case measure => simp [intOf]; omega
        · have hi2i : (200 : Int) ≤ (i : Int) := by omega
          have hfl : rs.length = 200 := by have := HFI.out.len; rw [if_pos (by omega)] at this; omega
          have HA : Hid (Calls Try.prog _ _ _ _) := play_full (List.replicate sz 0) w2 HLS2.out (fun r hr => (HFI.out.all r hr).2) hfl (by rw [List.length_replicate]; omega)
          clear hfl
          generalize mkT (List.replicate sz 0) = Z at *
          go_wp2_with fail
          refine HA.out.mono ?_
          rintro e w3 ⟨rfl, hb3⟩
          have HLS3 : Hid (LS w3 lb d S [] a (frs rs) o 1048576 0 w.heap.size rs false) := HLS2.out.below hb3
          have HK3 : Hid (Keeps (fun k => k < w.heap.size) w w3) := HK2.out.trans (Keeps.of_below hb3 (fun k hk => Nat.lt_of_lt_of_le hk HK2.out.size))
          clear hb3 HA
          go_wp2
          go_roundw
          case rel => exact ⟨i + 1, rs, S, a, by omega, by go_num, HFI.out.stay (by omega), HLS3.out, HK3.out⟩
          case measure => simp [intOf]; omega
    · have hgi : ¬ (i : Int) < (n : Int) := by omega
      clear HLS HFI
      go_wp2_with fail
      refine (new_good (rm : Int) wr (by omega) (by omega)).mono ?_
      rintro e w1 ⟨d2, rfl, hd1, hb1⟩
      have HK1 : Hid (Keeps (fun k => k < wr.heap.size) wr w1) := Keeps.of_below hb1 (fun k hk => hk)
      have HF : Hid (Calls Try.prog _ _ _ _) := format_any w1 hd1 ⟨by simp [newS], by simp [newS]⟩
      clear hd1 hb1
      go_wp2_with fail
      refine HF.out.mono ?_
      rintro e w2 ⟨z, rfl, g, gs2, hz, hd2, _, _, hk2⟩
      obtain ⟨e1, hdn⟩ := fmt_new (rm : Int) (by omega) g
      rw [e1] at hz
      subst hz
      have HDN : Hid (Done (newS (rm : Int)) (repS (newS (rm : Int)) [] g).2 [] g [] []) := hdn
      have HD2 : Hid _ := hd2
      have HK2 : Hid (Keeps (fun k => k < wr.heap.size) wr w2) := HK1.out.trans hk2
      clear hd2 hk2 HF HK1 e1 hdn
      generalize (repS (newS (rm : Int)) [] g).2 = S2 at *
      have q1 : rdE S2 logN = 0 := by
        unfold rdE; rw [HDN.out.dead, if_neg (by decide), HDN.out.lf.lkl, if_neg (by simp)]
      have q2 : rdV S2 logN = [] := by
        unfold rdV; rw [HDN.out.dead, if_neg (by decide), HDN.out.lf.lkl]; simp only [HDN.out.lf.fa]
      have hpn : prs 200 [] = ([], 0) := prs_nil 200
      have HO := open_good w2 HD2.out q1 (by rw [q2]; simp)
      rw [q2, hpn] at HO
      have HO' : Hid (Calls Try.prog _ _ _ _) := HO
      have HQ : Hid (rdE S2 logN = 0 ∧ rdV S2 logN = []) := ⟨q1, q2⟩
      clear HO q1 q2 hpn
      go_wp2_with fail
      refine HO'.out.mono ?_
      rintro e w3 ⟨lm, K3, rfl, hld, hkk, hlb, hb3⟩
      have HLD : Hid (LD w3 lm d2 S2 K3 gs2 [] false) := hld
      have HK3 : Hid (Keeps (fun k => k < wr.heap.size) wr w3) := HK2.out.trans (Keeps.of_below hb3 (fun k hk => Nat.lt_of_lt_of_le hk HK2.out.size))
      have HKK : Hid (∀ k, k < wr.heap.size → K3 k ∧ k ≠ lm) := fun k hk => ⟨hkk k hk, by have := HK2.out.size; omega⟩
      obtain ⟨w4, hmk, hcv, hb4⟩ := make_z m (by omega) w3
      have HLD4 : Hid (LD w4 lm d2 S2 K3 gs2 [] false) := by
        obtain ⟨h1, v, h2⟩ := hld
        exact ⟨h1.below hb4, v, h2.below hb4 (fun k hk => hk)⟩
      have HK4 : Hid (Keeps (fun k => k < wr.heap.size) wr w4) := HK3.out.trans (Keeps.of_below hb4 (fun k hk => Nat.lt_of_lt_of_le hk HK3.out.size))
      have HA := add_ext (List.replicate m 0) w4 HLD4.out (by rw [List.length_replicate]; exact hm5) HQ.out.1 ⟨by rw [HDN.out.lf.now]; simp, by rw [HDN.out.lf.steps]; simp⟩ (by rw [HQ.out.2, prs_nil]; decide) (by rw [HQ.out.2, prs_nil]; rfl)
      rw [HQ.out.2, prs_nil, List.nil_append] at HA
      have HA' : Hid (Calls Try.prog _ _ _ _) := HA
      clear hld hkk hlb hb3 HO' HA HK2 HD2 hb4 HLD HK3
      have hZl : (List.replicate m (0 : UInt8)).length = m := List.length_replicate
      generalize List.replicate m (0 : UInt8) = zl at *
      generalize mkT zl = Z at *
      go_wp2_with fail
      refine HA'.out.mono ?_
      rintro e w5 ⟨z, rfl, ⟨K5, gs5, g5, hz, hld5, _, _, hkk5⟩, hk5, _⟩
      have HK5 : Hid (Keeps (fun k => k < wr.heap.size) wr w5) := HK4.out.trans (hk5.mono HKK.out)
      by_cases hfit : m + 8 ≤ rm
      · have hfi : (m : Int) + 8 ≤ (rm : Int) := by omega
        obtain ⟨e1, hdn5⟩ := add_free (g := g5) (X := frm zl) HDN.out.lf HDN.out.dead (by rw [HDN.out.left (show (-1 : Int) < 0 by decide)]; show (-1 : Int) < 0; decide) (by
          rw [HDN.out.lf.now, HDN.out.room]; simp only [List.nil_append, usd_cons, HDN.out.lf.fa, frm_len, hZl]; simp [usd, newS]; omega)
        rw [e1] at hz
        subst hz
        rw [if_pos rfl, if_pos rfl] at hld5
        have q1 : rdE (extS S2 (frm zl) g5).2 logN = 0 := by
          unfold rdE; rw [hdn5.dead, if_neg (by decide), hdn5.lf.lkl, if_neg (by simp)]
        have q2 : rdV (extS S2 (frm zl) g5).2 logN = frs [zl] := by
          unfold rdV; rw [hdn5.dead, if_neg (by decide), hdn5.lf.lkl]; simp only [hdn5.lf.fa]; simp [frs]
        have hpn : prs 200 (frs [zl]) = ([zl], (frs [zl]).length) := prs_whole (fun r hr => by rw [List.mem_singleton] at hr; subst hr; omega) (by simp)
        have HO := open_good w5 hld5.1 q1 (by rw [q2]; simp [frs, frm_len]; omega)
        rw [q2, hpn] at HO
        have HO' : Hid (Calls Try.prog _ _ _ _) := HO
        have HGM : Hid (∃ v, LG w5 lm d2 K5 [zl] false v) := hld5.2
        clear HO q1 q2 hpn hld5 hdn5 e1 hkk5 hk5 HA' HLD4 HDN HQ HKK HK4
        go_wp2_with fail
        refine HO'.out.mono ?_
        rintro e w6 ⟨lk, K6, rfl, hld6, hkk6, hlb6, hb6⟩
        have HK6 : Hid (Keeps (fun k => k < wr.heap.size) wr w6) := HK5.out.trans (Keeps.of_below hb6 (fun k hk => Nat.lt_of_lt_of_le hk HK5.out.size))
        obtain ⟨vk, hgk⟩ := hld6.2
        obtain ⟨vm, hgm⟩ := HGM.out
        have HGK6 : Hid _ := hgk
        have HGM6 : Hid _ := hgm.below hb6 (fun k hk => hk)
        clear hld6 hkk6 hlb6 hb6 hgk hgm HO' HGM
        go_wp2_with fail
        refine (awake15_any w6).mono ?_
        rintro e w7 ⟨rfl, hb7⟩
        have HK7 : Hid (Keeps (fun k => k < wr.heap.size) wr w7) := HK6.out.trans (Keeps.of_below hb7 (fun k hk => Nat.lt_of_lt_of_le hk HK6.out.size))
        have HGM7 : Hid _ := HGM6.out.below hb7 (fun k hk => hk)
        have HRC : Hid (Calls Try.prog _ _ _ _) := records_any w7 (HGK6.out.below hb7 (fun k hk => hk)) (by simp)
        clear hb7 HGM6 HGK6
        go_wp2_with fail
        refine HRC.out.mono ?_
        rintro e w8 ⟨v8, rfl, hO8, hb8⟩
        obtain ⟨a8, c8, rfl⟩ := hO8.shape
        have HK8 : Hid (Keeps (fun k => k < wr.heap.size) wr w8) := HK7.out.trans (Keeps.of_below hb8 (fun k hk => Nat.lt_of_lt_of_le hk HK7.out.size))
        have HGM8 : Hid _ := HGM7.out.below hb8 (fun k hk => hk)
        have HRM : Hid (Calls Try.prog _ _ _ _) := records_any w8 HGM8.out (by simp)
        clear hO8 hb8 HRC HGM7
        go_wp2_with fail
        refine HRM.out.mono ?_
        rintro e w9 ⟨v9, rfl, hO9, hb9⟩
        obtain ⟨a9, c9, rfl⟩ := hO9.shape
        have HK9 : Hid (Keeps (fun k => k < wr.heap.size) wr w9) := HK8.out.trans (Keeps.of_below hb9 (fun k hk => Nat.lt_of_lt_of_le hk HK8.out.size))
        have HRN : Hid (Calls Try.prog _ _ _ _) := records_any w9 (HGM8.out.below hb9 (fun k hk => hk)) (by simp)
        clear hO9 hb9 HRM HGM8
        go_wp2_with fail
        refine HRN.out.mono ?_
        rintro e w10 ⟨v10, rfl, hO10, hb10⟩
        obtain ⟨a10, c10, rfl⟩ := hO10.shape
        have HK10 : Hid (Keeps (fun k => k < wr.heap.size) wr w10) := HK9.out.trans (Keeps.of_below hb10 (fun k hk => Nat.lt_of_lt_of_le hk HK9.out.size))
        clear hO10 hb10 HRN
        go_wp2
        go_ret
        exact ⟨rfl, (HK.out.trans (HK10.out.mono (fun k hk => Nat.lt_of_lt_of_le hk HK.out.size))).below⟩
      · have hfi : decide ((m : Int) + 8 ≤ (rm : Int)) = false := decide_eq_false (by omega)
        obtain ⟨e1, e2⟩ := ext_full (g := g5) (X := frm zl) HDN.out.lf HDN.out.dead (by rw [HDN.out.left (show (-1 : Int) < 0 by decide)]; show (-1 : Int) < 0; decide) (by
          rw [HDN.out.lf.now, HDN.out.room]; simp only [List.nil_append, usd_cons, HDN.out.lf.fa, frm_len, hZl]; simp [usd, newS]; omega)
        rw [e1] at hz
        subst hz
        rw [if_neg (by decide), if_neg (by decide), e2] at hld5
        have HO := open_good w5 hld5.1 HQ.out.1 (by rw [HQ.out.2]; simp)
        rw [HQ.out.2, prs_nil] at HO
        have HO' : Hid (Calls Try.prog _ _ _ _) := HO
        have HGM : Hid (∃ v, LG w5 lm d2 K5 [] false v) := hld5.2
        clear HO hld5 e1 e2 hkk5 hk5 HA' HLD4 HDN HQ HKK HK4
        go_wp2_with fail
        refine HO'.out.mono ?_
        rintro e w6 ⟨lk, K6, rfl, hld6, hkk6, hlb6, hb6⟩
        have HK6 : Hid (Keeps (fun k => k < wr.heap.size) wr w6) := HK5.out.trans (Keeps.of_below hb6 (fun k hk => Nat.lt_of_lt_of_le hk HK5.out.size))
        obtain ⟨vk, hgk⟩ := hld6.2
        obtain ⟨vm, hgm⟩ := HGM.out
        have HGK6 : Hid _ := hgk
        have HGM6 : Hid _ := hgm.below hb6 (fun k hk => hk)
        clear hld6 hkk6 hlb6 hb6 hgk hgm HO' HGM
        go_wp2_with fail
        refine (awake15_any w6).mono ?_
        rintro e w7 ⟨rfl, hb7⟩
        have HK7 : Hid (Keeps (fun k => k < wr.heap.size) wr w7) := HK6.out.trans (Keeps.of_below hb7 (fun k hk => Nat.lt_of_lt_of_le hk HK6.out.size))
        have HGM7 : Hid _ := HGM6.out.below hb7 (fun k hk => hk)
        have HRC : Hid (Calls Try.prog _ _ _ _) := records_any w7 (HGK6.out.below hb7 (fun k hk => hk)) (by simp)
        clear hb7 HGM6 HGK6
        go_wp2_with fail
        refine HRC.out.mono ?_
        rintro e w8 ⟨v8, rfl, hO8, hb8⟩
        obtain ⟨a8, c8, rfl⟩ := hO8.shape
        have HK8 : Hid (Keeps (fun k => k < wr.heap.size) wr w8) := HK7.out.trans (Keeps.of_below hb8 (fun k hk => Nat.lt_of_lt_of_le hk HK7.out.size))
        have HGM8 : Hid _ := HGM7.out.below hb8 (fun k hk => hk)
        have HRM : Hid (Calls Try.prog _ _ _ _) := records_any w8 HGM8.out (by simp)
        clear hO8 hb8 HRC HGM7
        go_wp2_with fail
        refine HRM.out.mono ?_
        rintro e w9 ⟨v9, rfl, hO9, hb9⟩
        obtain ⟨a9, c9, rfl⟩ := hO9.shape
        have HK9 : Hid (Keeps (fun k => k < wr.heap.size) wr w9) := HK8.out.trans (Keeps.of_below hb9 (fun k hk => Nat.lt_of_lt_of_le hk HK8.out.size))
        have HRN : Hid (Calls Try.prog _ _ _ _) := records_any w9 (HGM8.out.below hb9 (fun k hk => hk)) (by simp)
        clear hO9 hb9 HRM HGM8
        go_wp2_with fail
        refine HRN.out.mono ?_
        rintro e w10 ⟨v10, rfl, hO10, hb10⟩
        obtain ⟨a10, c10, rfl⟩ := hO10.shape
        have HK10 : Hid (Keeps (fun k => k < wr.heap.size) wr w10) := HK9.out.trans (Keeps.of_below hb10 (fun k hk => Nat.lt_of_lt_of_le hk HK9.out.size))
        clear hO10 hb10 HRN
        go_wp2
        go_ret
        exact ⟨rfl, (HK.out.trans (HK10.out.mono (fun k hk => Nat.lt_of_lt_of_le hk HK.out.size))).below⟩
end Go.Proofs.Ytkaikjlklhcnlaa
