/- HuffCodes: the walk. -/
import Derived.Test.YtbkaeibjhnndfaaTreeP
import Derived.Test.YtbkaeibjhnndfaaRefH
import Derived.Test.YtbkaeibjhnndfaaAwake4
import Derived.Deep.QuietTactic
import Derived.BigQuiet
namespace Go.Proofs.Ytbkaeibjhnndfaa
open Go.RowKit
set_option linter.unusedVariables false
set_option linter.unusedSimpArgs false

theorem IR.nat {w : World} {g cap : Nat} {zs : List Int} (hc : ∀ i, i < zs.length → w.cell? ⟨g, i, none⟩ = some (.int .i64 (zs.getD i 0))) (h15 : in15 zs) : ∀ i, i < zs.length → w.cell? ⟨g, i, none⟩ = some (.int .i64 (ln (toN zs) i : Int)) := fun i hi => by rw [hc i hi, toN_ln zs i hi (h15 i hi).1]
set_option maxRecDepth 100000 in
set_option maxHeartbeats 4000000 in
theorem lawHuffCodes_walk (a : Option Addr) (len cap : Nat) (zs : List Int) (w : World) (hR : IsRow .i64 w a len cap zs) :
    Calls Try.prog 7 #[.slice a len cap] w fun e w' => e = .returned (.bool true) ∧ Below w.heap.size w w' := by
  have hfl : (fewZ len zs).length ≤ 400 := by unfold fewZ; rw [List.length_take]; omega
  have HFW : Hid (∀ W, Below w.heap.size w W → Calls Try.prog 30 #[.slice a len cap] W fun e w' => ∃ v, e = .returned v ∧ IR w' v (fewZ len zs) ∧ Below W.heap.size W w') := fun W hb => few4_any a len cap zs W (isrow_below hR hb)
  clear hR
  generalize fewZ len zs = ys at *
  go_enter Try.func7, Try.ntmps7
  go_wp2_with fail
  refine (HFW.out _ (Below.refl _ w)).mono ?_
  rintro e w1 ⟨v1, rfl, hI, hB1⟩
  by_cases he : errN ys = 0
  · obtain ⟨h320, h15, hfit⟩ := errN_zero he
    go_wp2_with fail
    refine (codes_ok v1 ys _ hI he).mono ?_
    rintro e w2 ⟨rfl, hC2, hb2⟩
    have hB2 : Below w.heap.size w w2 := hB1.trans (hb2.mono hB1.size)
    have hI2 := hI.below hb2
    have hgc : w1.heap.size < w2.heap.size := hC2.lt
    go_wp2_with fail
    refine (HFW.out _ hB2).mono ?_
    rintro e w3 ⟨v3, rfl, hI3, hb3⟩
    have hB3 : Below w.heap.size w w3 := hB2.trans (hb3.mono hB2.size)
    go_wp2_with fail
    refine (plant_ok v3 ys _ hI3 he).mono ?_
    rintro e w4 ⟨B, hBl, rfl, hP4, hb4⟩
    have hB4 : Below w.heap.size w w4 := hB3.trans (hb4.mono hB3.size)
    go_wp2_with fail
    refine (HFW.out _ hB4).mono ?_
    rintro e w5 ⟨v5, rfl, hI5, hb5⟩
    have hB5 : Below w.heap.size w w5 := hB4.trans (hb5.mono hB4.size)
    have hRF := rfit_any v5 ys w5 hI5 hfl
    rw [he] at hRF
    go_wp2_with fail
    refine hRF.mono ?_
    rintro e w5' ⟨rfl, rfl⟩
    go_wp2_with fail
    refine (awake4_any _).mono ?_
    rintro e w6 ⟨rfl, hb6⟩
    have hB6 : Below w.heap.size w w6 := hB5.trans (hb6.mono hB5.size)
    have hC6 := (((hC2.since hb3).since hb4).since hb5).since hb6
    have hI6 := (((hI2.below hb3).below hb4).below hb5).below hb6
    have HI6 : Hid (IR w6 v1 ys) := hI6
    obtain ⟨g1, cap1, rfl, hg1, hc1⟩ := hI6
    have hc1' := IR.nat (cap := cap1) hc1 h15
    clear hI hI2 hI3 hI5 hP4 hC2 hc1 hRF hb2 hb3 hb4 hb5 hb6 hB1 hB2 hB3 hB4 hB5
    have HB6 : Hid (Below w.heap.size w w6) := hB6
    have HC6 : Hid (CR w6 w1.heap.size ys.length (cdOf (toN ys)) (ln (toN ys))) := hC6
    have HC1 : Hid (∀ i, i < ys.length → w6.cell? ⟨g1, i, none⟩ = some (.int .i64 (ln (toN ys) i : Int))) := hc1'
    clear hB6 hC6 hc1'
    go_wp2_with fail
    refine (HFW.out _ HB6.out).mono ?_
    rintro e w7 ⟨v7, rfl, hI7, hb7⟩
    obtain ⟨g7, cap7, rfl, hg7, hc7⟩ := hI7
    have HC7 : Hid (∀ i, i < ys.length → w7.cell? ⟨g7, i, none⟩ = some (.int .i64 (ln (toN ys) i : Int))) := IR.nat (cap := cap7) hc7 h15
    have HB7 : Hid (Below w.heap.size w w7) := HB6.out.trans (hb7.mono HB6.out.size)
    have HC67 : Hid (CR w7 w1.heap.size ys.length (cdOf (toN ys)) (ln (toN ys))) := HC6.out.since hb7
    have HI7 : Hid (IR w7 (.slice (some ⟨g1, 0, none⟩) ys.length cap1) ys) := HI6.out.below hb7
    have HC17 : Hid (∀ i, i < ys.length → w7.cell? ⟨g1, i, none⟩ = some (.int .i64 (ln (toN ys) i : Int))) := fun i hi => by rw [hb7.cell (p := ⟨g1, i, none⟩) hg1]; exact HC1.out i hi
    have hg17 : g1 < w7.heap.size := Nat.lt_of_lt_of_le hg1 hb7.size
    have hgc7 : w1.heap.size < w7.heap.size := HC67.out.lt
    have HRC : Hid (∀ W s, IR W (.slice (some ⟨g1, 0, none⟩) ys.length cap1) ys → s < ys.length → Calls Try.prog 35 #[.slice (some ⟨g1, 0, none⟩) ys.length cap1, .int .i64 (s : Int)] W fun e w' => e = .returned (.int .u32 (cd (toN ys) (ln (toN ys) s) s : Int)) ∧ w' = W) := fun W s h hs => rcode_any _ ys s W h h320 h15 hs
    clear HFW HI6 HC6 HC1 HB6 hc7 hb7 hg1 h15 hfit he
    generalize w1.heap.size = gc at *
    go_wp2
    go_loopw [60] (fun i wr => ∃ k : Nat, k ≤ ys.length ∧ i = .int .i64 (k : Int) ∧ Below w7.heap.size w7 wr) (fun i _ => ys.length - (intOf i).toNat)
    case atStart => exact ⟨0, by omega, rfl, Below.refl _ _⟩
    case round =>
      obtain ⟨k, hk, rfl, hB⟩ := hrel
      by_cases hlt : k < ys.length
      · have hC := HC67.out.since hB
        have ce : wr.cell? ⟨gc, k * 2, none⟩ = some (.int .u32 (cdOf (toN ys) k : Int)) := by rw [hC.cell (i := k * 2) (by omega), codeF_even]
        have co : wr.cell? ⟨gc, k * 2 + 1, none⟩ = some (.int .i64 (ln (toN ys) k : Int)) := by rw [hC.cell (i := k * 2 + 1) (by omega), codeF_odd]
        have c1 : wr.cell? ⟨g1, k, none⟩ = some (.int .i64 (ln (toN ys) k : Int)) := by rw [hB.cell (p := ⟨g1, k, none⟩) hg17]; exact HC17.out k hlt
        have c7 : wr.cell? ⟨g7, k, none⟩ = some (.int .i64 (ln (toN ys) k : Int)) := by rw [hB.cell (p := ⟨g7, k, none⟩) hg7]; exact HC7.out k hlt
        have HIR := HI7.out.below hB
        have HRk := fun W (h : IR W (.slice (some ⟨g1, 0, none⟩) ys.length cap1) ys) => HRC.out W k h hlt
        have hki : (k : Int) < (ys.length : Int) := by omega
        have hki0 : (0 : Int) ≤ (k : Int) := by omega
        have HBd : Hid (∀ n, Below w7.heap.size w7 (wr.drewN n)) := fun n => ⟨hB.os, hB.tape, hB.output, hB.size, hB.block⟩
        clear hC hB
        by_cases hl0 : ln (toN ys) k = 0
        · have hcd0 : cdOf (toN ys) k = 0 := by unfold cdOf; rw [if_neg (by omega)]
          rw [hl0] at co c1 c7
          rw [hcd0] at ce
          clear HRk HIR
          go_wp2
          go_quiet (fail)
          go_wp2
          go_roundw
          case rel => exact ⟨k + 1, by omega, by go_num, HBd.out _⟩
          case measure => simp [intOf]; omega
        · have hlp : 0 < ln (toN ys) k := by omega
          have hcd : cdOf (toN ys) k = cd (toN ys) (ln (toN ys) k) k := cdOf_at _ _ hlp
          rw [hcd] at ce
          have HRk' : Hid (∀ W, IR W (.slice (some ⟨g1, 0, none⟩) ys.length cap1) ys → Calls _ _ _ _ _) := HRk
          have HIR' : Hid (IR wr _ ys) := HIR
          have hl0i : ((ln (toN ys) k : Int) == 0) = false := by simp; omega
          have hlpi : (0 : Int) < (ln (toN ys) k : Int) := by omega
          clear HRk HIR hcd
          generalize cd (toN ys) (ln (toN ys) k) k = X at *
          generalize ln (toN ys) k = M at *
          go_wp2
          go_quiet ((go_at_call 35; exact Calls.quiet_of_same (HRk'.out _ HIR'.out)))
          go_wp2
          go_roundw
          case rel => exact ⟨k + 1, by omega, by go_num, HBd.out _⟩
          case measure => simp [intOf]; omega
      · obtain rfl : k = ys.length := by omega
        have HBf : Hid (Below w.heap.size w wr) := HB7.out.trans (hB.mono HB7.out.size)
        clear hB
        go_wp2
        go_ret
        exact ⟨rfl, HBf.out⟩
  · have hei : ((errN ys : Int) != 0) = true := by simp; omega
    go_wp2_with fail
    refine (codes_bad v1 ys _ hI hfl he).mono ?_
    rintro e w2 ⟨rfl, rfl⟩
    go_wp2_with fail
    refine (HFW.out _ hB1).mono ?_
    rintro e w3 ⟨v3, rfl, hI3, hb3⟩
    have hB3 : Below w.heap.size w w3 := hB1.trans (hb3.mono hB1.size)
    go_wp2_with fail
    refine (plant_bad v3 ys _ hI3 hfl he).mono ?_
    rintro e w4 ⟨rfl, rfl⟩
    go_wp2_with fail
    refine (HFW.out _ hB3).mono ?_
    rintro e w5 ⟨v5, rfl, hI5, hb5⟩
    have hB5 : Below w.heap.size w w5 := hB3.trans (hb5.mono hB3.size)
    go_wp2_with fail
    refine (rfit_any v5 ys _ hI5 hfl).mono ?_
    rintro e w5' ⟨rfl, rfl⟩
    generalize errN ys = E at *
    go_wp2_with fail
    refine (awake4_any _).mono ?_
    rintro e w6 ⟨rfl, hb6⟩
    have hB6 := hB5.trans (hb6.mono hB5.size)
    clear hB1 hB3 hb3 hb5 hb6 hI hI3 hI5 hB5
    go_wp2
    go_ret
    exact ⟨rfl, hB6⟩
end Go.Proofs.Ytbkaeibjhnndfaa
