/- Contract of the document's Split of layer 10. -/
import Derived.Test.YtnfemofighgenaaRChk
namespace Go.Proofs.Ytnfemofighgenaa
open Go.RowKit
set_option linter.unusedVariables false

theorem ckW_tail (mn bt mx : Nat) (s : List UInt8) (k : Nat) (hk : k ≤ s.length) :
    (ckW mn bt mx [] [] (s.take k)).2 = (s.take k).drop (k - (ckW mn bt mx [] [] (s.take k)).2.length) ∧ (ckW mn bt mx [] [] (s.take k)).2.length ≤ k := by
  have hf := ckW_flat mn bt mx (s.take k) [] []
  rw [List.nil_append] at hf
  generalize (ckW mn bt mx [] [] (s.take k)).2 = P at *
  generalize (ckW mn bt mx [] [] (s.take k)).1 = C at *
  have hl := congrArg List.length hf
  rw [List.length_append, List.length_take] at hl
  refine ⟨?_, by omega⟩
  rw [← hf, show k - P.length = C.flatten.length by omega, List.drop_left]
theorem ext_bsU (s : ByteArray) (a b : Nat) : s.extract a b = bsU ((s.data.toList.take b).drop a) := by
  apply ba_ext
  rw [bsU_data, extract_data, List.drop_take]
theorem endB_eq (mn bt mx : Nat) (T : List UInt8) (n : Nat) (h : n ≤ mx) : endB mn bt mx T n = ((n == mx) || (decide (mn ≤ n) && (fpr T % 2 ^ bt == 0))) := by
  unfold endB
  congr 1
  by_cases e : n = mx
  · subst e; simp
  · rw [decide_eq_false (by omega), beq_eq_false_iff_ne.2 e]
theorem int_mod0 (x q : Nat) : (((x : Int) % (q : Int)) == 0) = (x % q == 0) := by
  rw [Bool.eq_iff_iff, beq_iff_eq, beq_iff_eq]; omega
set_option maxRecDepth 100000 in
set_option maxHeartbeats 4000000 in
theorem rsplit_any (s : ByteArray) (mn bt mx : Nat) (w : World) (hs : s.size ≤ 1000000) (hmn : 1 ≤ mn) (hmm : mn ≤ mx) (hmx : mx ≤ 4096) (hbt : bt ≤ 20) :
    Calls Try.prog 34 #[.string s, .int .i64 (mn : Int), .int .i64 (bt : Int), .int .i64 (mx : Int)] w fun e w' => ∃ v, e = .returned v ∧ OS w' w.heap.size v (spl mn bt mx s.data.toList) ∧ Below w.heap.size w w' := by
  obtain ⟨i0, hi, hz0, hz1, hz2⟩ := info_parts Try.infoStr
  go_enter Try.func34, Try.ntmps34
  go_wp2
  have HST : Hid (OS (w.alloc (.cells #[] 9)) w.heap.size (.slice (some ⟨w.heap.size, 0, none⟩) 0 0) []) := World.ownsRow_made _ _ _ (Nat.le_refl _) (by decide) rfl
  have HB0 : Hid (Below w.heap.size w (w.alloc (.cells #[] 9))) := (Below.refl _ w).alloc (Nat.le_refl _) _
  generalize w.alloc (.cells #[] 9) = W0 at *
  go_loop [11, 12] (fun u i => ∃ k : Nat, k ≤ bt ∧ i = .int .i64 (k : Int) ∧ u = .int .u64 ((2 ^ k : Nat) : Int)) (fun _ i => bt - (intOf i).toNat)
  case atStart => exact ⟨0, by omega, rfl, rfl⟩
  case round =>
    obtain ⟨k, hk, rfl, rfl⟩ := hrel
    have hp : 2 ^ k ≤ 2 ^ 20 := Nat.pow_le_pow_right (by decide) (by omega)
    have HP : Hid (2 ^ (k + 1) = 2 * 2 ^ k) := by unfold Hid; rw [Nat.pow_succ, Nat.mul_comm]
    by_cases hlt : k < bt
    · have hki : (k : Int) < (bt : Int) := by omega
      generalize 2 ^ k = Q at *
      go_wp2
      exact ⟨⟨k + 1, by omega, by go_num, by rw [HP.out]; go_num⟩, by simp [intOf]; omega⟩
    · obtain rfl : k = bt := by omega
      clear HP
      have hpp : 0 < 2 ^ k := Nat.pow_pos (by decide)
      have HEE : Hid (∀ T n, n ≤ mx → endB mn k mx T n = ((n == mx) || (decide (mn ≤ n) && (fpr T % 2 ^ k == 0)))) := fun T n h => endB_eq mn k mx T n h
      generalize hQ : 2 ^ k = Q at *
      clear hQ
      go_wp2
      go_loopw [9, 10, 13] (fun v fr i wr => ∃ j : Nat, j ≤ s.size ∧ i = .int .i64 (j : Int) ∧ fr = .int .i64 ((j - (ckW mn k mx [] [] (s.data.toList.take j)).2.length : Nat) : Int) ∧ OS wr w.heap.size v (ckW mn k mx [] [] (s.data.toList.take j)).1 ∧ Below w.heap.size w wr) (fun _ _ i _ => s.size - (intOf i).toNat)
      case atStart => exact ⟨0, by omega, rfl, by simp, by simpa [ckW] using HST.out, HB0.out⟩
      case round =>
        clear HST HB0
        obtain ⟨j, hj, rfl, rfl, hO, hB⟩ := hrel
        have hsl : s.data.toList.length = s.size := size_toList s
        have HT := ckW_tail mn k mx s.data.toList j (by omega)
        have HL := ckW_left mn k mx (by omega) (s.data.toList.take j) [] [] (by simp; omega)
        have HLn := ckW_len mn k mx (s.data.toList.take j) [] []
        rw [List.length_take] at HLn
        by_cases hlj : j < s.size
        · have hji : (j : Int) < (s.size : Int) := by omega
          have HSn := ckW_snoc mn k mx (s.data.toList.take j) [] [] s[j]
          rw [List.nil_append, ← take_snoc s j hlj] at HSn
          have HX : Hid (s.extract (j - (ckW mn k mx [] [] (s.data.toList.take j)).2.length) (j + 1) = bsU ((ckW mn k mx [] [] (s.data.toList.take j)).2 ++ [s[j]])) := by
            unfold Hid
            rw [ext_bsU, take_snoc s j hlj, List.drop_append_of_le_length (by rw [List.length_take]; omega), ← HT.1]
          have hpd := HT.2
          have HS : Hid _ := HSn
          clear HT HSn
          unfold OS at hO
          generalize (ckW mn k mx [] [] (s.data.toList.take j)).2 = PD at *
          generalize (ckW mn k mx [] [] (s.data.toList.take j)).1 = CH at *
          obtain ⟨fr, hfr⟩ : ∃ fr, fr = j - PD.length := ⟨_, rfl⟩
          rw [← hfr] at HX ⊢
          have hn : (j : Int) + 1 - (fr : Int) = ((PD.length + 1 : Nat) : Int) := by omega
          have HEB := HEE.out (s.data.toList.take (j + 1)) (PD.length + 1) (by omega)
          have HFR0 : Hid ((j + 1) - (PD ++ [s[j]]).length = fr) := by unfold Hid; rw [List.length_append, List.length_singleton]; omega
          have hfrj : fr ≤ j := by omega
          have hnl : PD.length + 1 ≤ 4096 := by omega
          clear hfr
          generalize hN1 : PD.length + 1 = n1 at *
          have HN1 : Hid (_ = _) := hN1
          clear hN1
          by_cases hA : n1 = mx
          · have qa : ((n1 : Int) == (mx : Int)) = true := by rw [beq_iff_eq]; omega
            rw [show (n1 == mx) = true from beq_iff_eq.2 hA, Bool.true_or] at HEB
            clear hA
            have HS2 : Hid (ckW mn k mx [] [] (s.data.toList.take (j + 1)) = (CH ++ [PD ++ [s[j]]], [])) := by rw [HS.out, HEB]; exact rfl
            have hBs := hB.size
            go_wp2_with (at_builtin; rw [HX.out]; refine wpList_append_own _ rfl _ _ 50 rfl w.heap.size 9 i0 (.string ⟨#[]⟩) 1 16 Try.underlying50 hi hz0 hz1 hz2 rfl (by decide) _ _ _ rfl (hO.alloc _) ⟨wr.heap.size, 0, none⟩ 1 1 [.string (bsU (PD ++ [s[j]]))] rfl rfl (cell_one_new _ _ _) ?c2 ?c3 ?c4 ?c5 ?_)
            case c2 => first | rfl | (intro u hu; simp at hu; subst hu; rfl)
            case c3 => unfold maxLen; omega
            case c4 => omega
            case c5 => simp; omega
            intro v' w6 hown' hgrow' _
            rw [← sc_snoc] at hown'
            have hB6 := bel_append hB hBs hO hgrow'
            clear hgrow' hO
            go_wp2
            go_roundw
            case rel => exact ⟨j + 1, by omega, by go_num, by rw [HS2.out]; simp, by rw [HS2.out]; unfold OS; rw [List.length_append]; exact hown', hB6⟩
            case measure => simp [intOf]; omega
          · have qa : ((n1 : Int) == (mx : Int)) = false := by rw [beq_eq_false_iff_ne]; omega
            rw [beq_eq_false_iff_ne.2 hA, Bool.false_or] at HEB
            by_cases hC : mn ≤ n1
            · have qc : decide ((mn : Int) ≤ (n1 : Int)) = true := by rw [decide_eq_true_iff]; omega
              have qcn : decide (mn ≤ n1) = true := decide_eq_true hC
              rw [qcn, Bool.true_and] at HEB
              have hQz : ((Q : Int) == 0) = false := by rw [beq_eq_false_iff_ne]; omega
              have hf64 := fpr_64 (s.data.toList.take (j + 1))
              have hmd := int_mod0 (fpr (s.data.toList.take (j + 1))) Q
              have hmt : ((fpr (s.data.toList.take (j + 1)) : Nat) : Int).tmod (Q : Int) = ((fpr (s.data.toList.take (j + 1)) : Nat) : Int) % (Q : Int) := Int.tmod_eq_emod_of_nonneg (by omega)
              have hQ1 : (1 : Int) ≤ (Q : Int) := by omega
              clear hA hC
              go_wp2_with fail
              refine (rprint_any s j _ hs hlj).mono ?_
              rintro e w3 ⟨rfl, hb3⟩
              have hO := hO.kept (gbelow (row := none) hb3) (by cases CHV : Value.ownBlock _ <;> simp)
              have hB3 := hB.trans (hb3.mono hB.size)
              generalize fpr (s.data.toList.take (j + 1)) = FP at *
              cases hz : (FP % Q == 0)
              · rw [hz] at hmd HEB
                have HS2 : Hid (ckW mn k mx [] [] (s.data.toList.take (j + 1)) = (CH, PD ++ [s[j]])) := by rw [HS.out, HEB]; exact rfl
                go_wp2
                go_roundw
                case rel => exact ⟨j + 1, by omega, by go_num, by rw [HS2.out]; show _ = Value.int .i64 (((j + 1) - (PD ++ [s[j]]).length : Nat) : Int); rw [HFR0.out], by rw [HS2.out]; exact hO, hB3⟩
                case measure => simp [intOf]; omega
              · rw [hz] at hmd HEB
                have HS2 : Hid (ckW mn k mx [] [] (s.data.toList.take (j + 1)) = (CH ++ [PD ++ [s[j]]], [])) := by rw [HS.out, HEB]; exact rfl
                have hBs := hB3.size
                go_wp2_with (at_builtin; rw [HX.out]; refine wpList_append_own _ rfl _ _ 50 rfl w.heap.size 9 i0 (.string ⟨#[]⟩) 1 16 Try.underlying50 hi hz0 hz1 hz2 rfl (by decide) _ _ _ rfl (hO.alloc _) ⟨w3.heap.size, 0, none⟩ 1 1 [.string (bsU (PD ++ [s[j]]))] rfl rfl (cell_one_new _ _ _) ?c2 ?c3 ?c4 ?c5 ?_)
                case c2 => first | rfl | (intro u hu; simp at hu; subst hu; rfl)
                case c3 => unfold maxLen; omega
                case c4 => omega
                case c5 => simp; omega
                intro v' w6 hown' hgrow' _
                rw [← sc_snoc] at hown'
                have hB6 := bel_append hB3 hBs hO hgrow'
                clear hgrow' hO
                go_wp2
                go_roundw
                case rel => exact ⟨j + 1, by omega, by go_num, by rw [HS2.out]; simp, by rw [HS2.out]; unfold OS; rw [List.length_append]; exact hown', hB6⟩
                case measure => simp [intOf]; omega
            · have qc : decide ((mn : Int) ≤ (n1 : Int)) = false := by rw [decide_eq_false_iff_not]; omega
              have qcn : decide (mn ≤ n1) = false := decide_eq_false hC
              rw [qcn, Bool.false_and] at HEB
              clear hA hC
              have HS2 : Hid (ckW mn k mx [] [] (s.data.toList.take (j + 1)) = (CH, PD ++ [s[j]])) := by rw [HS.out, HEB]; exact rfl
              go_wp2
              go_roundw
              case rel => exact ⟨j + 1, by omega, by go_num, by rw [HS2.out]; show _ = Value.int .i64 (((j + 1) - (PD ++ [s[j]]).length : Nat) : Int); rw [HFR0.out], by rw [HS2.out]; exact hO, hB⟩
              case measure => simp [intOf]; omega
        · have HE : Hid (s.data.toList.take j = s.data.toList) := List.take_of_length_le (by omega)
          have hjs : j = s.size := by omega
          have HX : Hid (s.extract (j - (ckW mn k mx [] [] (s.data.toList.take j)).2.length) s.size = bsU (ckW mn k mx [] [] (s.data.toList.take j)).2) := by
            unfold Hid
            rw [ext_bsU, ← hjs]
            congr 1
            exact HT.1.symm
          have hpd := HT.2
          rw [HE.out] at hO HX HL HLn hpd ⊢
          have HSP : Hid (spl mn k mx s.data.toList = (ckW mn k mx [] [] s.data.toList).1 ++ lastC (ckW mn k mx [] [] s.data.toList).2) := rfl
          clear HT HEE
          unfold OS at hO
          generalize (ckW mn k mx [] [] s.data.toList).2 = PD at *
          generalize (ckW mn k mx [] [] s.data.toList).1 = CH at *
          by_cases hpe : PD.length = 0
          · have HR : Hid (spl mn k mx s.data.toList = CH) := by rw [HSP.out, List.length_eq_zero_iff.1 hpe]; simp [lastC, Hid]
            have hlt2 : ¬ ((j - PD.length : Nat) : Int) < (s.size : Int) := by omega
            generalize j - PD.length = fr at *
            go_wp2
            go_ret
            exact ⟨_, rfl, by rw [HR.out]; exact hO, hB⟩
          · have HR : Hid (spl mn k mx s.data.toList = CH ++ [PD]) := by
              rw [HSP.out]; unfold lastC; rw [if_neg (fun e => hpe (by rw [e]; rfl))]; exact rfl
            have hlt2 : ((j - PD.length : Nat) : Int) < (s.size : Int) := by omega
            have hle2 : j - PD.length ≤ s.size := by omega
            have hBs := hB.size
            generalize j - PD.length = fr at *
            go_wp2_with (at_builtin; rw [HX.out]; refine wpList_append_own _ rfl _ _ 50 rfl w.heap.size 9 i0 (.string ⟨#[]⟩) 1 16 Try.underlying50 hi hz0 hz1 hz2 rfl (by decide) _ _ _ rfl (hO.alloc _) ⟨wr.heap.size, 0, none⟩ 1 1 [.string (bsU PD)] rfl rfl (cell_one_new _ _ _) ?c2 ?c3 ?c4 ?c5 ?_)
            case c2 => first | rfl | (intro u hu; simp at hu; subst hu; rfl)
            case c3 => unfold maxLen; omega
            case c4 => omega
            case c5 => simp; omega
            intro v' w6 hown' hgrow' _
            rw [← sc_snoc] at hown'
            have hB6 := bel_append hB hBs hO hgrow'
            clear hgrow' hO
            go_wp2
            go_ret
            exact ⟨_, rfl, by rw [HR.out]; unfold OS; rw [List.length_append]; exact hown', hB6⟩
end Go.Proofs.Ytnfemofighgenaa
