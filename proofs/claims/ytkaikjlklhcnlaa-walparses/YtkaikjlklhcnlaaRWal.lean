/- Contracts: the document's Frame, Parse. -/
import Derived.Test.YtkaikjlklhcnlaaWalC
import Derived.Test.YtkaikjlklhcnlaaRCrc
import Derived.Test.YtkaikjlklhcnlaaRPut
import Derived.Test.YtkaikjlklhcnlaaRGet
import Derived.Deep.RegionHeld3
namespace Go.Proofs.Ytkaikjlklhcnlaa
open Go.RowKit
set_option linter.unusedVariables false
set_option linter.unusedSimpArgs false

theorem rput4_any (x : Nat) (w : World) (hx : x < 18446744073709551616) :
    Calls Try.prog 35 #[.int .u64 (x : Int), .int .i64 4] w fun e w' => ∃ P, e = .returned (.string P) ∧ Hid (P = mkT (le4 x)) ∧ P.size = 4 ∧ Below w.heap.size w w' := by
  refine (rput_any (x : Int) 4 w (by omega) (by omega) (by decide)).mono ?_
  rintro e w1 ⟨rfl, hb1⟩
  have he : bs (putN (x : Int).toNat (4 : Int).toNat) = mkT (le4 x) := by
    apply ba_ext
    rw [bs_data2, mkT_dl, Int.toNat_natCast]
    rfl
  exact ⟨_, rfl, he, by rw [he, mkT_sz, le4_len], hb1⟩
theorem rcrcL_any (s : List UInt8) (w : World) (hs : s.length ≤ 10000) :
    Calls Try.prog 36 #[.string (mkT s)] w fun e w' => ∃ c : Nat, e = .returned (.int .u32 (c : Int)) ∧ Hid (c = crcV 0 s) ∧ c < 4294967296 ∧ Below w.heap.size w w' := by
  refine (rcrc_any (mkT s) w (by rw [mkT_sz]; omega)).mono ?_
  rintro e w1 ⟨rfl, hb1⟩
  exact ⟨crcV 0 (mkT s).data.toList, rfl, by unfold Hid; rw [mkT_dl], crcV_lt _ _, hb1⟩
set_option maxRecDepth 100000 in
set_option maxHeartbeats 1000000 in
theorem rframe_any (s : List UInt8) (w : World) (hs : s.length ≤ 10000) :
    Calls Try.prog 15 #[.string (mkT s)] w fun e w' => e = .returned (.string (mkT (frm s))) ∧ Below w.heap.size w w' := by
  have hsz := mkT_sz s
  obtain ⟨n, hn⟩ : ∃ n, n = s.length := ⟨_, rfl⟩
  rw [← hn] at hsz hs
  have HN : Hid (n = s.length) := hn
  clear hn
  have HCR := fun W => rcrcL_any s W (by rw [← HN.out]; exact hs)
  have HC : Hid (∀ W, Calls Try.prog _ _ W _) := HCR
  clear HCR
  obtain ⟨T, hT⟩ : ∃ T, T = mkT s := ⟨_, rfl⟩
  have HT : Hid (T = mkT s) := hT
  rw [← hT] at hsz
  rw [← hT]
  clear hT
  go_enter Try.func15, Try.ntmps15
  go_wp2_with fail
  refine (rput4_any n _ ?_).mono ?_
  · omega
  rintro e w1 ⟨P, rfl, HP, hPs, hb1⟩
  have HB1 : Hid (Below w.heap.size w w1) := hb1
  clear hb1
  go_wp2_with fail
  have HC1 := HC.out w1
  rw [← HT.out] at HC1
  refine HC1.mono ?_
  clear HC1
  rintro e w2 ⟨c, rfl, HCV, hc, hb2⟩
  have HB2 : Hid (Below w.heap.size w w2) := HB1.out.trans (hb2.mono HB1.out.size)
  clear hb2
  have hci : ((c : Nat) : Int) < 4294967296 := by omega
  go_wp2_with fail
  refine (rput4_any c _ ?_).mono ?_
  · omega
  rintro e w3 ⟨Q, rfl, HQ, hQs, hb3⟩
  have HB3 : Hid (Below w.heap.size w w3) := HB2.out.trans (hb3.mono HB2.out.size)
  clear hb3
  have hPT : (P ++ T).size = 4 + n := by simp [ByteArray.size_append, hPs, hsz]
  go_wp2
  go_ret
  refine ⟨?_, HB3.out⟩
  rw [HP.out, HQ.out, HT.out, mkT_append, mkT_append, HCV.out, HN.out, List.append_assoc]
  rfl
theorem rgetB_any (X : ByteArray) (w : World) (hs : X.size ≤ 1099511627776) :
    Calls Try.prog 32 #[.string X] w fun e w' => ∃ z : Nat, e = .returned (.int .u64 (z : Int)) ∧ Hid (z = getN (X.data.toList.take 8)) ∧ z < 18446744073709551616 ∧ w' = w := by
  refine (rget_any X w (by omega)).mono ?_
  rintro e w1 ⟨rfl, rfl⟩
  refine ⟨_, rfl, rfl, ?_, rfl⟩
  have h := getN_lt (X.data.toList.take 8)
  have h2 : (X.data.toList.take 8).length ≤ 8 := by rw [List.length_take]; omega
  exact Nat.lt_of_lt_of_le h (Nat.le_trans (Nat.pow_le_pow_right (by decide) h2) (by decide))
theorem bdrew' {B : Nat} {w w' : World} (h : Below B w.drew w') : Below B w w' := ⟨h.os, h.tape, h.output, h.size, h.block⟩
theorem fst1_take {u : List UInt8} (h1 : rcN u ≤ 5000) (h2 : rcN u + 8 ≤ u.length) (h : u.take (8 + rcN u) = frm (rcT u)) : fst1 u = some (rcT u) := by
  have hl : (rcT u).length ≤ 5000 := by unfold rcT; rw [List.length_take]; omega
  have e : u = frm (rcT u) ++ u.drop (8 + rcN u) := by rw [← h, List.take_append_drop]
  have := fst1_frm (r := rcT u) (t := u.drop (8 + rcN u)) hl
  rwa [← e] at this
theorem fst1_untake {u : List UInt8} (h1 : rcN u ≤ 5000) (h2 : rcN u + 8 ≤ u.length) (h : u.take (8 + rcN u) ≠ frm (rcT u)) : fst1 u = none := by
  cases hf : fst1 u with
  | none => rfl
  | some r =>
    exfalso
    apply h
    obtain ⟨_, q2, q3⟩ := fst1_sound hf
    have hr : rcT u = r := by
      unfold fst1 at hf
      split at hf
      · injection hf
      · cases hf
    have hl : (rcT u).length = rcN u := by unfold rcT; rw [List.length_take, List.length_drop]; omega
    rw [hr] at hl ⊢
    have e : (frm r).length = 8 + rcN u := by rw [frm_len]; omega
    rw [← e]
    have := congrArg (List.take (frm r).length) q3
    rw [List.take_left' rfl] at this
    exact this
set_option maxRecDepth 100000 in
set_option maxHeartbeats 2000000 in
theorem rparse_any (s : List UInt8) (w : World) (hs : s.length ≤ 9000) :
    Calls Try.prog 11 #[.string (mkT s)] w fun e w' => ∃ v, e = .returned (.tuple #[v, .int .i64 ((prs 200 s).2 : Int)]) ∧ OS w' w.heap.size v (prs 200 s).1 ∧ Below w.heap.size w w' := by
  obtain ⟨n, hn⟩ : ∃ n, n = s.length := ⟨_, rfl⟩
  have HN : Hid (n = s.length) := hn
  rw [← hn] at hs
  clear hn
  have hsz : (mkT s).size = n := by rw [mkT_sz]; exact HN.out.symm
  obtain ⟨T, hT⟩ : ∃ T, T = mkT s := ⟨_, rfl⟩
  have HT : Hid (T = mkT s) := hT
  rw [← hT] at hsz
  rw [← hT]
  clear hT
  have hb0 : Below w.heap.size w (w.alloc (.cells #[] 9)) := (Below.refl _ _).alloc (Nat.le_refl _) _
  have HB0 : Hid (Below w.heap.size w (w.alloc (.cells #[] 9))) := hb0
  have HO0 : Hid (OS (w.alloc (.cells #[] 9)) w.heap.size (.slice (some ⟨w.heap.size, 0, none⟩) 0 0) []) := ⟨rfl, .inr ⟨w.heap.size, 0, #[], rfl, Nat.le_refl _, heap_alloc_new w _, Nat.le_refl _, by decide, rfl, rfl⟩⟩
  clear hb0
  go_enter Try.func11, Try.ntmps11
  go_wp2
  go_loopw [4, 5] (fun v u wr => ∃ (l : List (List UInt8)) (t : Nat), u = .int .i64 (t : Int) ∧ PrI s l t ∧ OS wr w.heap.size v l ∧ Below w.heap.size w wr) (fun _ u _ => n - (intOf u).toNat)
  case atStart => exact ⟨[], 0, rfl, PrI.start s, HO0.out, HB0.out⟩
  case round =>
    obtain ⟨l, t, rfl, hp, ho, hb⟩ := hrel
    obtain ⟨a, c, rfl⟩ := ho.shape
    have HP : Hid (PrI s l t) := hp
    have HO : Hid (OS wr w.heap.size (.slice a l.length c) l) := ho
    have HB : Hid (Below w.heap.size w wr) := hb
    have htn : t ≤ n := by have := hp.tl; rw [← HN.out] at this; exact this
    have hll := hp.le
    clear hp ho hb HB0 HO0
    by_cases hl : l.length < 200
    · have hli : (l.length : Int) < 200 := by omega
      have HUL : Hid ((s.drop t).length = n - t) := by unfold Hid; rw [List.length_drop, ← HN.out]
      by_cases h8 : n < t + 8
      · have h8i : (n : Int) < (t : Int) + 8 := by omega
        have HR : Hid (prs 200 s = (l, t)) := HP.out.stop (by
          unfold fst1; rw [if_neg]; rintro ⟨_, _, h, _⟩; rw [HUL.out] at h; omega)
        go_wp2
        go_ret2
        rw [HR.out]
        exact ⟨_, rfl, HO.out, HB.out⟩
      have h8i : ¬ (n : Int) < (t : Int) + 8 := by omega
      have hti4 : (t : Int) + 4 ≤ (n : Int) := by omega
      have hX := ext_size T t (t + 4) (by omega)
      have HXD : Hid ((T.extract t (t + 4)).data.toList = (s.drop t).take 4) := by unfold Hid; rw [HT.out, cut_data]; congr 1; omega
      go_wp2_with fail
      generalize T.extract t (t + 4) = X at *
      refine (rgetB_any X _ (by omega)).mono ?_
      rintro e w1 ⟨z, rfl, HZ, hz64, e1⟩
      have e2 := e1.symm
      subst e2
      clear e1
      have HZ2 : Hid (z = rcN (s.drop t)) := by
        unfold Hid rcN; rw [HZ.out, HXD.out, List.take_take, Nat.min_eq_right (by decide)]
      clear HZ HXD hX
      by_cases h5 : 5000 < z
      · have HR : Hid (prs 200 s = (l, t)) := HP.out.stop (by
          unfold fst1; rw [if_neg]; rintro ⟨_, h, _⟩; rw [← HZ2.out] at h; omega)
        have h5i : (5000 : Int) < (z : Int) := by omega
        go_wp2
        go_ret2
        rw [HR.out]
        exact ⟨_, rfl, HO.out, HB.out⟩
      have h5i : ¬ (5000 : Int) < (z : Int) := by omega
      by_cases h6 : n < t + 8 + z
      · have HR : Hid (prs 200 s = (l, t)) := HP.out.stop (by
          unfold fst1; rw [if_neg]; rintro ⟨_, _, h, _⟩; rw [← HZ2.out, HUL.out] at h; omega)
        have h6i : (n : Int) < (t : Int) + 8 + (z : Int) := by omega
        go_wp2
        go_ret2
        rw [HR.out]
        exact ⟨_, rfl, HO.out, HB.out⟩
      have h6i : ¬ (n : Int) < (t : Int) + 8 + (z : Int) := by omega
      have HR5 : Hid (T.extract (t + 4) (t + 4 + z) = mkT (rcT (s.drop t))) := by
        unfold Hid; rw [HT.out, mkT_cut]; unfold rcT; rw [← HZ2.out, List.drop_drop]; congr 2; omega
      have HR6 : Hid (T.extract t (t + 8 + z) = mkT ((s.drop t).take (8 + z))) := by
        unfold Hid; rw [HT.out, mkT_cut]; congr 2; omega
      have HRL : Hid ((rcT (s.drop t)).length = z) := by
        unfold Hid rcT; rw [List.length_take, ← HZ2.out, List.length_drop, HUL.out]; omega
      have hx1 := ext_size T (t + 4) (t + 4 + z) (by omega)
      have hx2 := ext_size T t (t + 8 + z) (by omega)
      have HFR : Hid (∀ W, Calls Try.prog _ _ W _) := fun W => rframe_any (rcT (s.drop t)) W (by rw [HRL.out]; omega)
      rw [← HR5.out] at HFR
      go_wp2_with fail
      generalize T.extract (t + 4) (t + 4 + z) = R at *
      have hRs : R.size = z := by omega
      have HRS : Hid (R = mkT (rcT (s.drop t))) := HR5.out
      have hte : t + 8 + z ≤ n := by omega
      have htei : (t : Int) + 8 + (z : Int) ≤ (n : Int) := by omega
      have htl : (t : Int) ≤ (t : Int) + 8 + (z : Int) := by omega
      have hsl : ∀ W : World, (Instr.slice 9 (.string T) (some (.int .i64 (t : Int))) (some (.int .i64 ((t : Int) + 8 + (z : Int)))) none).run Try.prog W = .ok (.string (T.extract t (t + 8 + z))) W := fun W => by
        rw [run_slice_string (P := Try.prog) W 9 T .i64 .i64 (t : Int) ((t : Int) + 8 + (z : Int)) Try.underlying9 (by omega) (by omega) (by omega)]
        rw [Int.toNat_natCast, show ((t : Int) + 8 + (z : Int)).toNat = t + 8 + z by omega]
      have hw1 : IntKind.i64.wrap ((t : Int) + 8) = (t : Int) + 8 := by rw [IntKind.wrap_i64]; omega
      have hw2 : IntKind.i64.wrap (z : Int) = (z : Int) := by rw [IntKind.wrap_i64]; omega
      have hw3 : IntKind.i64.wrap ((t : Int) + 8 + (z : Int)) = (t : Int) + 8 + (z : Int) := by rw [IntKind.wrap_i64]; omega
      by_cases hq : (s.drop t).take (8 + z) = frm (rcT (s.drop t))
      · have hqq : ((T.extract t (t + 8 + z)).toList == (mkT (frm (rcT (s.drop t)))).toList) = true := by rw [HR6.out, mkT_beq, decide_eq_true hq]
        have HST := HP.out.step hl (fst1_take (by rw [← HZ2.out]; omega) (by rw [← HZ2.out, HUL.out]; omega) (by rw [← HZ2.out]; exact hq))
        have HP2 : Hid (PrI s (l ++ [rcT (s.drop t)]) (t + (8 + z))) := by have := HST.1; rw [HRL.out] at this; exact this
        clear hq HST hx1 hx2 HR5 HR6 HRL
        generalize mkT (frm (rcT (s.drop t))) = F at *
        generalize rcT (s.drop t) = rr at *
        generalize hY : T.extract t (t + 8 + z) = Y at *
        go_region_held3 (fun _ : World => True) (trivial) ((go_at_call 15; refine (HFR.out _).mono ?_; rintro e w2 ⟨rfl, hb2⟩))
        have HB2 : Hid (Below w.heap.size w w2) := HB.out.trans ((bdrew' hb2).mono HB.out.size)
        have HO2 : Hid (OS w2 w.heap.size (.slice a l.length c) l) := HO.out.below (bdrew' hb2)
        have hB2 : w.heap.size ≤ w2.heap.size := HB2.out.size
        clear hb2 HFR
        rw [show R = mkT rr from HRS.out]
        go_wp2_with (at_builtin; refine append_one rfl _ _ rfl w.heap.size (.slice a l.length c) l rr rfl rfl HO2.out (by omega) hB2 ?_; intro a' c' w3 hO3 hg3 _)
        have HO3 : Hid _ := hO3
        have HB3 : Hid (Below w.heap.size w w3) := HB2.out.grown hg3 hB2 (fun k hk => (HO2.out.lt k hk).1)
        clear hO3 hg3
        go_wp2
        go_roundw
        case rel => exact ⟨l ++ [rr], t + (8 + z), by go_num, HP2.out, HO3.out, HB3.out⟩
        case measure => simp [intOf]; omega
      · have hqq : ((T.extract t (t + 8 + z)).toList == (mkT (frm (rcT (s.drop t)))).toList) = false := by rw [HR6.out, mkT_beq, decide_eq_false hq]
        have HR : Hid (prs 200 s = (l, t)) := HP.out.stop (fst1_untake (by rw [← HZ2.out]; omega) (by rw [← HZ2.out, HUL.out]; omega) (by rw [← HZ2.out]; exact hq))
        clear hq hx1 hx2 HR5 HR6 HRL
        generalize mkT (frm (rcT (s.drop t))) = F at *
        generalize hY : T.extract t (t + 8 + z) = Y at *
        go_region_held3 (fun _ : World => True) (trivial) ((go_at_call 15; refine (HFR.out _).mono ?_; rintro e w2 ⟨rfl, hb2⟩))
        have HB2 : Hid (Below w.heap.size w w2) := HB.out.trans ((bdrew' hb2).mono HB.out.size)
        have HO2 : Hid (OS w2 w.heap.size (.slice a l.length c) l) := HO.out.below (bdrew' hb2)
        clear hb2 HFR
        go_wp2
        go_ret2
        rw [HR.out]
        exact ⟨_, rfl, HO2.out, HB2.out⟩
    · have HR : Hid (prs 200 s = (l, t)) := HP.out.full hl
      have hli : ¬ (l.length : Int) < 200 := by omega
      go_wp2
      go_ret2
      rw [HR.out]
      exact ⟨_, rfl, HO.out, HB.out⟩
end Go.Proofs.Ytkaikjlklhcnlaa
