/- The walk of ChunkerFronts. -/
import Derived.Test.YtnfemofighgenabWChunkerWhole
import Derived.Test.YtnfemofighgenabChkG
import Derived.Deep.RegionHeld
import Derived.Deep.RegionHeld3
namespace Go.Proofs.Ytnfemofighgenab
open Go.RowKit
set_option linter.unusedVariables false

theorem few_1500 (s : ByteArray) (w : World) (hs : s.size ≤ 9223372036854775807) :
    Calls Try.prog 11 #[.string s, .int .i64 1500] w fun e w' => e = .returned (.string (s.extract 0 1500)) ∧ w' = w := few_any s 1500 w (by decide) hs
set_option maxRecDepth 100000 in
set_option maxHeartbeats 4000000 in
theorem lawChunkerFronts_walk (f a b : ByteArray) (mn bt mx : Int) (w : World) (hf : f.size ≤ 140737488351232) (ha : a.size ≤ 140737488351232) (hb : b.size ≤ 140737488351232) (hcf : (-9223372036854775808 ≤ mn ∧ mn ≤ 9223372036854775807) ∧ (-9223372036854775808 ≤ bt ∧ bt ≤ 9223372036854775807) ∧ (-9223372036854775808 ≤ mx ∧ mx ≤ 9223372036854775807)) :
    Calls Try.prog 5 #[.string f, .string a, .string b, .agg #[.int .i64 mn, .int .i64 bt, .int .i64 mx]] w fun e w' => e = .returned (.bool true) ∧ Below w.heap.size w w' := by
  have hff : (f.extract 0 1500).size ≤ 1500 := by rw [few_size]; omega
  have hfa : (a.extract 0 1500).size ≤ 1500 := by rw [few_size]; omega
  have hfb : (b.extract 0 1500).size ≤ 1500 := by rw [few_size]; omega
  have HFA := fun W => few_1500 a W (by omega)
  have HFB := fun W => few_1500 b W (by omega)
  have hN := CnfAt.new w mn bt mx
  have hB0 : Below w.heap.size w (w.alloc (.cells #[.int .i64 mn, .int .i64 bt, .int .i64 mx] 24)) := (Below.refl _ w).alloc (Nat.le_refl _) _
  go_enter Try.func5, Try.ntmps5
  go_wp2_with fail
  refine (few_1500 f _ (by omega)).mono ?_
  rintro e w0 ⟨rfl, rfl⟩
  generalize f.extract 0 1500 = F at *
  generalize a.extract 0 1500 = A at *
  generalize b.extract 0 1500 = B at *
  have HFA : Hid _ := HFA
  have HFB : Hid _ := HFB
  generalize w.alloc (.cells #[.int .i64 mn, .int .i64 bt, .int .i64 mx] 24) = W at *
  obtain ⟨c0, c1, c2⟩ := hN.cells
  have hNl := hN.lt
  have hFA : (F ++ A).size ≤ 3000 := by rw [ByteArray.size_append]; omega
  have hFB : (F ++ B).size ≤ 3000 := by rw [ByteArray.size_append]; omega
  by_cases he : errC mn bt mx = 0
  · obtain ⟨e1, e2, e3, e4, e5⟩ := errC_zero he
    obtain ⟨mn, rfl⟩ := Int.eq_ofNat_of_zero_le (show 0 ≤ mn by omega)
    obtain ⟨bt, rfl⟩ := Int.eq_ofNat_of_zero_le e3
    obtain ⟨mx, rfl⟩ := Int.eq_ofNat_of_zero_le (show 0 ≤ mx by omega)
    have HSA : Hid _ := fun W => split_good (F ++ A) mn bt mx W he (by omega)
    have HSB : Hid _ := fun W => split_good (F ++ B) mn bt mx W he (by omega)
    clear he
    go_wp2
    go_region_held (fun w' => w'.cell? ⟨w.heap.size, 0, none⟩ = some (.int .i64 (mn : Int)) ∧ w'.cell? ⟨w.heap.size, 1, none⟩ = some (.int .i64 (bt : Int)) ∧ w'.cell? ⟨w.heap.size, 2, none⟩ = some (.int .i64 (mx : Int))) (first | exact ⟨c0, c1, c2⟩ | assumption | exact ⟨(hb1.cell (p := ⟨w.heap.size, 0, none⟩) hNl).trans c0, (hb1.cell (p := ⟨w.heap.size, 1, none⟩) hNl).trans c1, (hb1.cell (p := ⟨w.heap.size, 2, none⟩) hNl).trans c2⟩) (first | (go_at_call 11; refine (HFA.out _).mono ?_; rintro e w' ⟨rfl, rfl⟩) | (go_at_call 14; refine (HSA.out _).mono ?_; rintro e w1 ⟨v1, rfl, hO1, hb1⟩))
    have hN1 : CnfAt w1 w.heap.size mn bt mx := CnfAt.below (w := W.drew) hN hb1
    have hB1 : Below w.heap.size w w1 := (hB0.drew).trans (hb1.mono hB0.size)
    clear c0 c1 c2 hN hb1 hNl HSA HFA
    obtain ⟨c0, c1, c2⟩ := hN1.cells
    have hNl := hN1.lt
    go_wp2
    go_region_held (fun w' => w'.cell? ⟨w.heap.size, 0, none⟩ = some (.int .i64 (mn : Int)) ∧ w'.cell? ⟨w.heap.size, 1, none⟩ = some (.int .i64 (bt : Int)) ∧ w'.cell? ⟨w.heap.size, 2, none⟩ = some (.int .i64 (mx : Int))) (first | exact ⟨c0, c1, c2⟩ | assumption | exact ⟨(hb2.cell (p := ⟨w.heap.size, 0, none⟩) hNl).trans c0, (hb2.cell (p := ⟨w.heap.size, 1, none⟩) hNl).trans c1, (hb2.cell (p := ⟨w.heap.size, 2, none⟩) hNl).trans c2⟩) (first | (go_at_call 11; refine (HFB.out _).mono ?_; rintro e w' ⟨rfl, rfl⟩) | (go_at_call 14; refine (HSB.out _).mono ?_; rintro e w2 ⟨v2, rfl, hO2, hb2⟩))
    have hO12 : OS w2 _ v1 _ := OS.below (w := w1.drew) hO1 hb2
    have hB2 : Below w.heap.size w w2 := (hB1.drew).trans (hb2.mono hB1.size)
    have HFR := fun i => fronts mn bt mx F.data.toList A.data.toList B.data.toList i
    have hdA : (F ++ A).data.toList = F.data.toList ++ A.data.toList := by rw [ByteArray.data_append, Array.toList_append]
    have hdB : (F ++ B).data.toList = F.data.toList ++ B.data.toList := by rw [ByteArray.data_append, Array.toList_append]
    have HL := spl_len mn bt mx (F ++ A).data.toList
    have HM := spl_len mn bt mx (F ++ B).data.toList
    rw [size_toList] at HL HM
    have hfl := spl_flat mn bt mx (F ++ A).data.toList
    rw [← hdA, ← hdB] at HFR
    rw [size_toList] at HFR
    have hflen : (spl mn bt mx (F ++ A).data.toList).flatten.length ≤ 3000 := by rw [hfl, size_toList]; exact hFA
    clear c0 c1 c2 hN1 hb2 hNl hO1 HSB HFB hdA hdB hfl
    generalize spl mn bt mx (F ++ A).data.toList = L at *
    generalize spl mn bt mx (F ++ B).data.toList = M at *
    obtain ⟨al, cl, rfl, hAL⟩ := hO12.rs
    obtain ⟨am, cm, rfl, hAM⟩ := hO2.rs
    have HAL : Hid _ := hAL
    have HAM : Hid _ := hAM
    have HFR : Hid _ := HFR
    clear hAL hAM hO12 hO2
    go_wp2
    go_loopw [13, 60] (fun t i wr => ∃ q n : Nat, q ≤ L.length ∧ i = .int .i64 (q : Int) ∧ t = .int .i64 ((stAt L q : Nat) : Int) ∧ wr = w2.drewN n) (fun _ i _ => L.length - (intOf i).toNat)
    case atStart => exact ⟨0, 0, by omega, rfl, rfl, rfl⟩
    case round =>
      obtain ⟨q, n, hq, rfl, rfl, rfl⟩ := hrel
      have hBn := below_drewN hB2 n
      by_cases hlt : q < L.length
      · have hqi : (q : Int) < (L.length : Int) := by omega
        obtain ⟨gl, rfl, hgl, hcl⟩ := HAL.out (fun e => by rw [e] at hlt; simp at hlt)
        have k1 := hcl q hlt
        have HSS := stAt_succ L q hlt
        have hle := stAt_le L (q + 1)
        have hXs := bsU_size (L.getD q [])
        have hFRq := HFR.out q
        rw [HSS] at hFRq hle
        rw [← hXs] at HSS hFRq hle
        have HSS : Hid _ := HSS
        clear hcl hXs
        by_cases hbr : F.size < stAt L q + (bsU (L.getD q [])).size
        · clear hFRq
          generalize bsU (L.getD q []) = X at *
          generalize stAt L q = T at *
          have b1 : decide ((F.size : Int) < (T : Int) + (X.size : Int)) = true := by rw [decide_eq_true_iff]; omega
          go_wp2_with fail
          refine (awake10_any _).mono ?_
          rintro e w4 ⟨rfl, hb4⟩
          have hB4 := hBn.trans (hb4.mono hBn.size)
          go_wp2
          go_ret
          exact ⟨rfl, hB4⟩
        · by_cases hlast : q + 1 = L.length
          · clear hFRq
            generalize bsU (L.getD q []) = X at *
            generalize stAt L q = T at *
            have b1 : decide ((F.size : Int) < (T : Int) + (X.size : Int)) = false := by rw [decide_eq_false_iff_not]; omega
            have b2 : ((q : Int) + 1 == (L.length : Int)) = true := by rw [beq_iff_eq]; omega
            go_wp2_with fail
            refine (awake10_any _).mono ?_
            rintro e w4 ⟨rfl, hb4⟩
            have hB4 := hBn.trans (hb4.mono hBn.size)
            go_wp2
            go_ret
            exact ⟨rfl, hB4⟩
          · obtain ⟨z1, z2⟩ := hFRq (by omega) (by omega)
            obtain ⟨gm, rfl, hgm, hcm⟩ := HAM.out (fun e => by rw [e] at z1; simp at z1)
            have k2 := hcm q z1
            rw [← z2] at k2
            clear hcm z2
            generalize bsU (L.getD q []) = X at *
            generalize stAt L q = T at *
            have b1 : decide ((F.size : Int) < (T : Int) + (X.size : Int)) = false := by rw [decide_eq_false_iff_not]; omega
            have b2 : ((q : Int) + 1 == (L.length : Int)) = false := by rw [beq_eq_false_iff_ne]; omega
            have b3 : decide ((M.length : Int) ≤ (q : Int)) = false := by rw [decide_eq_false_iff_not]; omega
            have b3n : decide (M.length ≤ q) = false := by rw [decide_eq_false_iff_not]; omega
            have b4 : (X.toList == X.toList) = true := by simp
            have hqm : (q : Int) < (M.length : Int) := by omega
            go_wp2
            go_quiet (fail)
            go_wp2
            go_roundw
            case rel => exact ⟨q + 1, n + nq, by omega, by go_num, by rw [HSS.out]; go_num, by first | rfl | exact World.drewN_drewN ..⟩
            case measure => simp [intOf]; omega
      · go_wp2_with fail
        refine (awake10_any _).mono ?_
        rintro e w4 ⟨rfl, hb4⟩
        have hB4 := hBn.trans (hb4.mono hBn.size)
        go_wp2
        go_ret
        exact ⟨rfl, hB4⟩
  · have hn : (((errC mn bt mx : Nat) : Int) == 0) = false := by rw [beq_eq_false_iff_ne]; omega
    have hn2 : (((errC mn bt mx : Nat) : Int) != 0) = true := by rw [bne, hn]; rfl
    have HSA : Hid _ := fun W => split_bad (F ++ A) mn bt mx W he
    have HSB : Hid _ := fun W => split_bad (F ++ B) mn bt mx W he
    clear he
    generalize errC mn bt mx = E at *
    go_wp2
    go_region_held (fun w' => w'.cell? ⟨w.heap.size, 0, none⟩ = some (.int .i64 mn) ∧ w'.cell? ⟨w.heap.size, 1, none⟩ = some (.int .i64 bt) ∧ w'.cell? ⟨w.heap.size, 2, none⟩ = some (.int .i64 mx)) (first | exact ⟨c0, c1, c2⟩ | assumption | exact ⟨(hb1.cell (p := ⟨w.heap.size, 0, none⟩) hNl).trans c0, (hb1.cell (p := ⟨w.heap.size, 1, none⟩) hNl).trans c1, (hb1.cell (p := ⟨w.heap.size, 2, none⟩) hNl).trans c2⟩) (first | (go_at_call 11; refine (HFA.out _).mono ?_; rintro e w' ⟨rfl, rfl⟩) | (go_at_call 14; refine (HSA.out _).mono ?_; rintro e w1 ⟨rfl, hb1⟩))
    have hN1 : CnfAt w1 w.heap.size mn bt mx := CnfAt.below (w := W.drew) hN hb1
    have hB1 : Below w.heap.size w w1 := (hB0.drew).trans (hb1.mono hB0.size)
    clear c0 c1 c2 hN hb1 hNl HSA HFA
    obtain ⟨c0, c1, c2⟩ := hN1.cells
    have hNl := hN1.lt
    go_wp2
    go_region_held (fun w' => w'.cell? ⟨w.heap.size, 0, none⟩ = some (.int .i64 mn) ∧ w'.cell? ⟨w.heap.size, 1, none⟩ = some (.int .i64 bt) ∧ w'.cell? ⟨w.heap.size, 2, none⟩ = some (.int .i64 mx)) (first | exact ⟨c0, c1, c2⟩ | assumption | exact ⟨(hb2.cell (p := ⟨w.heap.size, 0, none⟩) hNl).trans c0, (hb2.cell (p := ⟨w.heap.size, 1, none⟩) hNl).trans c1, (hb2.cell (p := ⟨w.heap.size, 2, none⟩) hNl).trans c2⟩) (first | (go_at_call 11; refine (HFB.out _).mono ?_; rintro e w' ⟨rfl, rfl⟩) | (go_at_call 14; refine (HSB.out _).mono ?_; rintro e w2 ⟨rfl, hb2⟩))
    have hB2 : Below w.heap.size w w2 := (hB1.drew).trans (hb2.mono hB1.size)
    have hee : ((E : Int) == (E : Int)) = true := by simp
    go_wp2_with fail
    refine (awake10_any _).mono ?_
    rintro e w4 ⟨rfl, hb4⟩
    have hB4 := hB2.trans (hb4.mono hB2.size)
    go_wp2
    go_ret
    exact ⟨rfl, hB4⟩
end Go.Proofs.Ytnfemofighgenab
