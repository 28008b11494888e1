/- The walk of RetainCounts: no policy keeps more than it says. -/
import Derived.Test.YtkfaoldpcgokiaaRetP
import Derived.Test.YtkfaoldpcgokiaaWRetainOlder
namespace Go.Proofs.Ytkfaoldpcgokiaa
open Go.RowKit
set_option linter.unusedVariables false
set_option linter.unusedSimpArgs false

theorem mkB_toList (p : List UInt8) : (mkB p).toList = p := by
  show (⟨p.toArray⟩ : ByteArray).toList = p
  simp
theorem mkB_beq (a b : List UInt8) : ((mkB a).toList == (mkB b).toList) = decide (a = b) := by
  rw [mkB_toList, mkB_toList]
  by_cases h : a = b
  · subst h; simp
  · rw [decide_eq_false h, beq_eq_false_iff_ne]; exact h
/-- Is it one of the first j? -/
def inT (tg : List (List UInt8)) (j : Nat) (x : List UInt8) : Bool := decide (x ∈ tg.take j)
theorem inT_succ (tg : List (List UInt8)) (j : Nat) (x : List UInt8) (h : j < tg.length) : inT tg (j + 1) x = (inT tg j x || decide (tg.getD j [] = x)) := by
  unfold inT
  rw [← Bool.decide_or]
  apply decide_eq_decide.2
  rw [← mem_take_succ tg j [] h x, List.mem_cons]
  constructor
  · rintro (h | h)
    · exact .inr h.symm
    · exact .inl h
  · rintro (h | h)
    · exact .inr h
    · exact .inl h.symm
set_option maxRecDepth 100000 in
set_option maxHeartbeats 4000000 in
theorem lawRetainCounts_walk (p : Pol) (tv : Value) (a : Option Addr) (len cap : Nat) (l0 : List Sn) (w : World) (hP : PolS w p tv) (hS : IsSns w a len cap l0) :
    Calls Try.prog 5 #[polV p tv, .slice a len cap] w fun e w' => e = .returned (.bool true) ∧ Below w.heap.size w w' := by
  obtain ⟨hll, hl63, hok, hV⟩ := hS
  obtain ⟨W1, hW1⟩ : ∃ W1, W1 = w.alloc (.cells #[.int .i64 p.a, .int .i64 p.d, .int .i64 p.k, .int .i64 p.m, tv] 24) := ⟨_, rfl⟩
  have hB1 : Below w.heap.size w W1 := by rw [hW1]; exact (Below.refl _ w).alloc (Nat.le_refl _) _
  have hN1 : W1.heap[w.heap.size]? = some (.cells #[.int .i64 p.a, .int .i64 p.d, .int .i64 p.k, .int .i64 p.m, tv] 24 (0, 0)) := by rw [hW1]; exact heap_alloc_new w _
  have HN1 : Hid (W1.heap[w.heap.size]? = some (.cells #[.int .i64 p.a, .int .i64 p.d, .int .i64 p.k, .int .i64 p.m, tv] 24 (0, 0))) := hN1
  have HB1 : Hid (Below w.heap.size w W1) := hB1
  have HF := few21_any a len cap l0 W1 ((hV.below hB1).mono hB1.size) hll hl63
  have HG : Hid (∀ x ∈ l0.take 25, x.g.length ≤ 9223372036854775807) := fun x hx => (hok x (List.mem_of_mem_take hx)).2.2
  have hl25 : (l0.take 25).length ≤ 25 := by rw [List.length_take]; omega
  have HPI : Hid (PolIn w w.heap.size p tv) := hP.h
  have hzw : w.heap.size < W1.heap.size := (Array.getElem?_eq_some_iff.1 hN1).1
  have hm43 := hP.n
  generalize l0.take 25 = l at *
  obtain ⟨ta, tc, rfl, -, -⟩ := hP.h.tv
  obtain ⟨m, hm⟩ : ∃ m, m = p.tg.length := ⟨_, rfl⟩
  have HM : Hid (m = p.tg.length) := hm
  rw [← hm] at hW1 HN1 HPI hm43 ⊢
  clear hm
  rw [hW1] at HF
  have HW1 : Hid (w.alloc (.cells #[.int .i64 p.a, .int .i64 p.d, .int .i64 p.k, .int .i64 p.m, .slice ta m tc] 24) = W1) := hW1.symm
  have hzp := zeroPol
  clear hV hok hN1 hB1 hP hW1 hll
  unfold polV
  go_enter Try.func5, Try.ntmps5
  go_wp2_with fail
  refine HF.mono ?_
  rintro e w2 ⟨fa, fc, rfl, hO, hb2⟩
  rw [show w.alloc (.cells #[.int .i64 p.a, .int .i64 p.d, .int .i64 p.k, .int .i64 p.m, .slice ta m tc] 24) = W1 from HW1.out] at hb2
  have HB2 : Hid (Below w.heap.size w w2) := HB1.out.trans (hb2.mono HB1.out.size)
  have hN2 : w2.heap[w.heap.size]? = _ := (hb2.block _ hzw).trans HN1.out
  have HN2 : Hid (w2.heap[w.heap.size]? = some (.cells #[.int .i64 p.a, .int .i64 p.d, .int .i64 p.k, .int .i64 p.m, .slice ta m tc] 24 (0, 0))) := hN2
  have hz2 : w.heap.size < w2.heap.size := (Array.getElem?_eq_some_iff.1 hN2).1
  have HV2 : Hid (SV w2 w2.heap.size (.slice fa l.length fc) l) := hO.sv
  have HP2 : Hid (PolIn w2 w2.heap.size p (.slice ta m tc)) := (HPI.out.below HB2.out).mono HB2.out.size
  have c0 : w2.cell? ⟨w.heap.size, 0, none⟩ = some (.int .i64 p.a) := by unfold World.cell?; rw [hN2]; rfl
  have c1 : w2.cell? ⟨w.heap.size, 1, none⟩ = some (.int .i64 p.d) := by unfold World.cell?; rw [hN2]; rfl
  have c2 : w2.cell? ⟨w.heap.size, 2, none⟩ = some (.int .i64 p.k) := by unfold World.cell?; rw [hN2]; rfl
  have c3 : w2.cell? ⟨w.heap.size, 3, none⟩ = some (.int .i64 p.m) := by unfold World.cell?; rw [hN2]; rfl
  have c4 : w2.cell? ⟨w.heap.size, 4, none⟩ = some (.slice ta m tc) := by unfold World.cell?; rw [hN2]; rfl
  have HPN : Hid (∀ W : World, PolIn W W.heap.size noP (.slice none 0 0)) := fun W => ⟨⟨by decide, by decide, by decide, by decide, by decide, fun x hx => (by cases hx)⟩, TV.nil _ _⟩
  clear hN2 hO hb2 HB1 HN1 HW1 HF
  obtain ⟨N, hN⟩ : ∃ N, N = l.length := ⟨_, rfl⟩
  have HN : Hid (N = l.length) := hN
  by_cases he : errR p l = 0
  · have HK := keep_good p (.slice ta m tc) _ l w2 HP2.out HV2.out (by omega) HG.out he
    have HE : Hid (errR p l = 0) := he
    unfold polV at HK
    clear he
    rw [← hN] at HK HV2 hl25 ⊢
    clear hN
    go_wp2_with fail
    refine HK.mono ?_
    rintro e w3 ⟨g, rfl, hg1, hR, hb3⟩
    have HR : Hid (BR w3 g N (bF (kpL p l))) := hR
    have HB3 : Hid (Below w.heap.size w w3) := HB2.out.trans (hb3.mono HB2.out.size)
    have hgl := hR.lt
    have hN3 : w3.heap[w.heap.size]? = _ := (hb3.block _ hz2).trans HN2.out
    have HN3 : Hid (w3.heap[w.heap.size]? = some (.cells #[.int .i64 p.a, .int .i64 p.d, .int .i64 p.k, .int .i64 p.m, .slice ta m tc] 24 (0, 0))) := hN3
    have hz3 : w.heap.size < w3.heap.size := (Array.getElem?_eq_some_iff.1 hN3).1
    have hV3 := (HV2.out.below hb3).mono hb3.size
    have HP3 : Hid (PolIn w3 w3.heap.size p (.slice ta m tc)) := (HP2.out.below hb3).mono hb3.size
    obtain ⟨hneg, htm⟩ := err_zero HE.out
    have HKN := keep_good noP (.slice none 0 0) _ l w3 (HPN.out w3) hV3 (by rw [← HN.out]; omega) HG.out ((noP_err hneg).trans HE.out)
    rw [← HN.out] at HKN
    unfold polV noP at HKN
    rw [show (⟨0, 0, 0, 0, []⟩ : Pol) = noP from rfl] at HKN
    have HV3 : Hid (SV w3 w3.heap.size (.slice fa N fc) l) := hV3
    have HNT : Hid ((cB (ntB p l) N : Int) ≤ min p.a 25 + min p.d 25 + min p.k 25 + min p.m 25) := by
      have := nt_le p l hneg (by rw [← HN.out]; exact hl25)
      rw [← HN.out] at this; exact this
    obtain ⟨q1, q2, q3, q4⟩ : 0 ≤ p.a ∧ 0 ≤ p.d ∧ 0 ≤ p.k ∧ 0 ≤ p.m := by unfold Pol.neg at hneg; omega
    clear hb3 hR hg1 c0 c1 c2 c3 c4 hN3 hV3 HK hneg htm
    go_wp2_with fail
    refine HKN.mono ?_
    rintro e w4 ⟨g4, rfl, hg4, hR4, hb4⟩
    have HR4 : Hid (BR w4 g4 N (bF (kpL noP l))) := hR4
    have HB4 : Hid (Below w.heap.size w w4) := HB3.out.trans (hb4.mono HB3.out.size)
    have hg4l := hR4.lt
    have HRA : Hid (BR w4 g N (bF (kpL p l))) := HR.out.keep (hb4.block g hgl)
    have hgl4 := HRA.out.lt
    have hN4 : w4.heap[w.heap.size]? = _ := (hb4.block _ hz3).trans HN3.out
    have c0 : w4.cell? ⟨w.heap.size, 0, none⟩ = some (.int .i64 p.a) := by unfold World.cell?; rw [hN4]; rfl
    have c1 : w4.cell? ⟨w.heap.size, 1, none⟩ = some (.int .i64 p.d) := by unfold World.cell?; rw [hN4]; rfl
    have c2 : w4.cell? ⟨w.heap.size, 2, none⟩ = some (.int .i64 p.k) := by unfold World.cell?; rw [hN4]; rfl
    have c3 : w4.cell? ⟨w.heap.size, 3, none⟩ = some (.int .i64 p.m) := by unfold World.cell?; rw [hN4]; rfl
    have c4 : w4.cell? ⟨w.heap.size, 4, none⟩ = some (.slice ta m tc) := by unfold World.cell?; rw [hN4]; rfl
    have hz4 : w.heap.size < w4.heap.size := (Array.getElem?_eq_some_iff.1 hN4).1
    have HV4 : Hid (SV w4 w3.heap.size (.slice fa N fc) l) := HV3.out.below hb4
    have HT4 : Hid (TV w4 w3.heap.size (.slice ta m tc) p.tg) := HP3.out.tv.below hb4
    clear hb4 hR4 hg4 HKN HR hN4
    go_wp2
    go_loopw [62, 10, 11] (fun i n t wr => ∃ k : Nat, k ≤ N ∧ i = .int .i64 (k : Int) ∧ n = .int .i64 (cB (ntB p l) k : Nat) ∧ t = .int .i64 (cB (tgAt p.tg l) k : Nat) ∧ wr = w4) (fun i _ _ _ => N - (intOf i).toNat)
    case atStart => exact ⟨0, Nat.zero_le _, rfl, rfl, rfl, rfl⟩
    case round =>
      obtain ⟨k, hk, rfl, rfl, rfl, hw⟩ := hrel
      subst hw
      by_cases hlt : k < N
      · have hlti : (k : Int) < (N : Int) := by omega
        obtain ⟨x, hx⟩ : ∃ x, l[k]? = some x := ⟨_, List.getElem?_eq_getElem (by rw [← HN.out]; exact hlt)⟩
        have k0 := HRA.out.cell k hlt
        have k1 := HR4.out.cell k hlt
        rw [noP_keeps l k (by rw [← HN.out]; exact hlt)] at k1
        obtain ⟨gg, o, rfl, hgB, hg, -, hcap, s0, s1, s2⟩ := HV4.out.at hx
        have HTA : Hid (tgAt p.tg l k = inT p.tg m x.g) := by
          unfold Hid tgAt inT
          rw [hx, HM.out, List.take_length]; rfl
        have HTK : Hid (tgAt p.tg l k = true → bF (kpL p l) k = true) := fun h => tg_kept p l k (by rw [← HN.out]; exact hlt) h
        have HNB : Hid (ntB p l k = (bF (kpL p l) k && !tgAt p.tg l k)) := rfl
        have b1 := cB_le (ntB p l) k
        have b2 := cB_le (tgAt p.tg l) k
        have HY1 : Hid (ntB p l k = true → cB (ntB p l) (k + 1) = cB (ntB p l) k + 1) := cB_yes
        have HY2 : Hid (ntB p l k = false → cB (ntB p l) (k + 1) = cB (ntB p l) k) := cB_no
        have HY3 : Hid (tgAt p.tg l k = true → cB (tgAt p.tg l) (k + 1) = cB (tgAt p.tg l) k + 1) := cB_yes
        have HY4 : Hid (tgAt p.tg l k = false → cB (tgAt p.tg l) (k + 1) = cB (tgAt p.tg l) k) := cB_no
        generalize bF (kpL p l) k = bk at *
        generalize cB (ntB p l) k = cn at *
        generalize cB (tgAt p.tg l) k = ct at *
        clear hx s0 s1
        go_wp2
        go_loopw [70, 14] (fun i t wr' => ∃ j : Nat, j ≤ m ∧ i = .int .i64 (j : Int) ∧ t = .bool (inT p.tg j x.g) ∧ wr' = wr) (fun i _ _ => m - (intOf i).toNat)
        case atStart => exact ⟨0, Nat.zero_le _, rfl, by simp [inT], rfl⟩
        case round =>
          obtain ⟨j, hj, rfl, rfl, hw⟩ := hrel
          subst hw
          by_cases hjm : j < m
          · have hjmi : (j : Int) < (m : Int) := by omega
            have hjt : j < p.tg.length := by rw [← HM.out]; exact hjm
            obtain ⟨gt, ot, rfl, hgt, hgt2, -, hcapt, t0⟩ := HT4.out.at hjt
            have HIS : Hid (inT p.tg (j + 1) x.g = (inT p.tg j x.g || decide (p.tg.getD j [] = x.g))) := inT_succ p.tg j x.g hjt
            have HEQ : ((mkB (p.tg.getD j [])).toList == (mkB x.g).toList) = decide (p.tg.getD j [] = x.g) := mkB_beq _ _
            generalize p.tg.getD j [] = tj at *
            generalize inT p.tg j x.g = ij at *
            generalize decide (tj = x.g) = dj at *
            cases ij with
            | true =>
              go_wp2
              go_roundw
              case rel => exact ⟨j + 1, by omega, by go_num, by rw [HIS.out]; rfl, by first | rfl | trivial⟩
              case measure => simp [intOf]; omega
            | false =>
              go_wp2
              go_roundw
              case rel => exact ⟨j + 1, by omega, by go_num, by rw [HIS.out, Bool.false_or], by first | rfl | trivial⟩
              case measure => simp [intOf]; omega
          · have hjmi : ¬ (j : Int) < (m : Int) := by omega
            obtain rfl : j = m := by omega
            rw [← HTA.out]
            generalize tgAt p.tg l k = tk at *
            cases tk with
            | true =>
              obtain rfl : bk = true := HTK.out rfl
              have H1 := HY2.out (by rw [HNB.out]; rfl)
              have H2 := HY3.out rfl
              have HH1 : Hid (cB (ntB p l) (k + 1) = cn) := H1
              have HH2 : Hid (cB (tgAt p.tg l) (k + 1) = ct + 1) := H2
              clear H1 H2
              go_wp2
              go_roundw
              case rel => exact ⟨k + 1, by omega, by go_num, by rw [HH1.out], by rw [HH2.out]; go_num, by first | rfl | trivial⟩
              case measure => simp [intOf]; omega
            | false =>
              have H2 := HY4.out rfl
              have HH2 : Hid (cB (tgAt p.tg l) (k + 1) = ct) := H2
              clear H2
              cases bk with
              | true =>
                have H1 := HY1.out (by rw [HNB.out]; rfl)
                have HH1 : Hid (cB (ntB p l) (k + 1) = cn + 1) := H1
                clear H1
                go_wp2
                go_roundw
                case rel => exact ⟨k + 1, by omega, by go_num, by rw [HH1.out]; go_num, by rw [HH2.out], by first | rfl | trivial⟩
                case measure => simp [intOf]; omega
              | false =>
                have H1 := HY2.out (by rw [HNB.out]; rfl)
                have HH1 : Hid (cB (ntB p l) (k + 1) = cn) := H1
                clear H1
                go_wp2
                go_roundw
                case rel => exact ⟨k + 1, by omega, by go_num, by rw [HH1.out], by rw [HH2.out], by first | rfl | trivial⟩
                case measure => simp [intOf]; omega
      · have hlti : ¬ (k : Int) < (N : Int) := by omega
        obtain rfl : k = N := by omega
        have HTW : Hid (cB (ntB p l) k + cB (tgAt p.tg l) k ≤ k) := cB_two k (fun i _ h => by
          obtain ⟨h1, h2⟩ := h
          unfold ntB at h1
          rw [h2] at h1
          simp at h1)
        obtain ⟨W5, hW5⟩ : ∃ W5, W5 = wr.alloc (.cells #[.int .i64 p.a, .int .i64 p.d, .int .i64 p.k, .int .i64 p.m] 3) := ⟨_, rfl⟩
        have hb5 : Below wr.heap.size wr W5 := by rw [hW5]; exact (Below.refl _ _).alloc (Nat.le_refl _) _
        have hN5 : W5.heap[wr.heap.size]? = some (.cells #[.int .i64 p.a, .int .i64 p.d, .int .i64 p.k, .int .i64 p.m] 3 (0, 0)) := by rw [hW5]; exact heap_alloc_new wr _
        have HB5 : Hid (Below w.heap.size w W5) := HB4.out.trans (hb5.mono HB4.out.size)
        have HC5 : Hid (∀ j, j < 4 → W5.cell? ⟨wr.heap.size, j, none⟩ = some (.int .i64 ([p.a, p.d, p.k, p.m].getD j 0))) := fun j hj => by
          rw [cell_of_row _ _ _ _ _ _ hN5]
          rcases (by omega : j = 0 ∨ j = 1 ∨ j = 2 ∨ j = 3) with rfl | rfl | rfl | rfl <;> rfl
        have hz5 : wr.heap.size < W5.heap.size := (Array.getElem?_eq_some_iff.1 hN5).1
        have HX5 : Hid (∀ j, j < 4 → 0 ≤ [p.a, p.d, p.k, p.m].getD j 0) := fun j hj => by
          rcases (by omega : j = 0 ∨ j = 1 ∨ j = 2 ∨ j = 3) with rfl | rfl | rfl | rfl
          · exact q1
          · exact q2
          · exact q3
          · exact q4
        have HW5 : Hid (wr.alloc (.cells #[.int .i64 p.a, .int .i64 p.d, .int .i64 p.k, .int .i64 p.m] 3) = W5) := hW5.symm
        have HMS : Hid ((cB (ntB p l) k : Int) ≤ mS [p.a, p.d, p.k, p.m] 4) := by
          have := HNT.out
          unfold Hid
          simp [mS]
          omega
        have b1 := cB_le (ntB p l) k
        have b2 := cB_le (tgAt p.tg l) k
        clear hb5 hN5 hW5
        go_upto_region 27 with fail
        rw [show wr.alloc (.cells #[.int .i64 p.a, .int .i64 p.d, .int .i64 p.k, .int .i64 p.m] 3) = W5 from HW5.out]
        clear c0 c1 c2 c3 c4
        go_loopw [108, 17] (fun i s wr' => ∃ j : Nat, j ≤ 4 ∧ i = .int .i64 (j : Int) ∧ s = .int .i64 (mS [p.a, p.d, p.k, p.m] j) ∧ 0 ≤ mS [p.a, p.d, p.k, p.m] j ∧ mS [p.a, p.d, p.k, p.m] j ≤ 25 * (j : Int) ∧ wr' = W5) (fun i _ _ => 4 - (intOf i).toNat)
        case atStart => exact ⟨0, Nat.zero_le _, rfl, rfl, Int.le_refl _, Int.le_refl _, rfl⟩
        case round =>
          obtain ⟨j, hj, rfl, rfl, hs0, hs1, hw⟩ := hrel
          subst hw
          by_cases hj4 : j < 4
          · have hj4i : (j : Int) < 4 := by omega
            have e0 := HC5.out j hj4
            have x0 := HX5.out j hj4
            have HSU : Hid (mS [p.a, p.d, p.k, p.m] (j + 1) = mS [p.a, p.d, p.k, p.m] j + min ([p.a, p.d, p.k, p.m].getD j 0) 25) := mS_succ _ j hj4
            generalize [p.a, p.d, p.k, p.m].getD j 0 = xj at *
            generalize mS [p.a, p.d, p.k, p.m] j = sj at *
            by_cases hx25 : xj ≤ 25
            · have hmn : min xj 25 = xj := by omega
              have HS2 : Hid (mS [p.a, p.d, p.k, p.m] (j + 1) = sj + xj) := by unfold Hid; rw [HSU.out, hmn]
              go_wp2
              go_roundw
              case rel => exact ⟨j + 1, by omega, by go_num, by rw [HS2.out], by rw [HS2.out]; omega, by rw [HS2.out]; omega, by first | rfl | trivial⟩
              case measure => simp [intOf]; omega
            · have hmn : min xj 25 = 25 := by omega
              have HS2 : Hid (mS [p.a, p.d, p.k, p.m] (j + 1) = sj + 25) := by unfold Hid; rw [HSU.out, hmn]
              have hx26 : 25 ≤ xj := by omega
              go_wp2
              go_roundw
              case rel => exact ⟨j + 1, by omega, by go_num, by rw [HS2.out], by rw [HS2.out]; omega, by rw [HS2.out]; omega, by first | rfl | trivial⟩
              case measure => simp [intOf]; omega
          · have hj4i : ¬ (j : Int) < 4 := by omega
            obtain rfl : j = 4 := by omega
            have hle := HMS.out
            have htw := HTW.out
            generalize mS [p.a, p.d, p.k, p.m] 4 = s4 at *
            generalize cB (ntB p l) k = cn at *
            generalize cB (tgAt p.tg l) k = ct at *
            have HA := awake21_any wr
            have hti : (cn : Int) + (ct : Int) ≤ (k : Int) := by omega
            have hwt : IntKind.i64.wrap ((cn : Int) + (ct : Int)) = (cn : Int) + (ct : Int) := by rw [IntKind.wrap_i64]; omega
            go_wp2_with fail
            refine HA.mono ?_
            rintro e w6 ⟨rfl, hb6⟩
            have HB6 : Hid (Below w.heap.size w w6) := HB5.out.trans (hb6.mono HB5.out.size)
            clear hb6
            go_wp2
            go_ret
            exact ⟨rfl, HB6.out⟩
  · have HK := keep_bad p (.slice ta m tc) _ l w2 HP2.out HV2.out (by omega) he
    unfold polV at HK
    have hbe : (errR p l == 0) = false := by rw [beq_eq_false_iff_ne]; exact he
    have HTM : Hid (errR noP l = tmE l) := noP_tm l
    generalize errR p l = E at *
    rw [← hN] at HK HV2 hl25 ⊢
    clear hN
    go_wp2_with fail
    refine HK.mono ?_
    rintro e w3 ⟨rfl, hb3⟩
    have HB3 : Hid (Below w.heap.size w w3) := HB2.out.trans (hb3.mono HB2.out.size)
    have hV3 := (HV2.out.below hb3).mono hb3.size
    by_cases ht : tmB 0 l = true
    · have HKN := keep_good noP (.slice none 0 0) _ l w3 (HPN.out w3) hV3 (by rw [← HN.out]; omega) HG.out (HTM.out.trans (tmE_yes ht))
      rw [← HN.out] at HKN
      unfold polV noP at HKN
      clear hb3 c0 c1 c2 c3 c4 hV3 HK ht
      go_wp2_with fail
      refine HKN.mono ?_
      rintro e w4 ⟨g4, rfl, hg4, hR4, hb4⟩
      have HB4 : Hid (Below w.heap.size w w4) := HB3.out.trans (hb4.mono HB3.out.size)
      clear hb4 hR4 hg4 HKN
      have HA := awake21_any w4
      go_wp2_with fail
      refine HA.mono ?_
      rintro e w6 ⟨rfl, hb6⟩
      have HB6 : Hid (Below w.heap.size w w6) := HB4.out.trans (hb6.mono HB4.out.size)
      clear hb6
      go_wp2
      go_ret
      exact ⟨rfl, HB6.out⟩
    · have ht' : tmB 0 l = false := by cases h : tmB 0 l <;> simp_all
      have HKN := keep_bad noP (.slice none 0 0) _ l w3 (HPN.out w3) hV3 (by rw [← HN.out]; omega) (by rw [HTM.out, tmE_no ht']; decide)
      rw [HTM.out, tmE_no ht'] at HKN
      unfold polV noP at HKN
      clear hb3 c0 c1 c2 c3 c4 hV3 HK ht ht'
      rcases Nat.eq_zero_or_pos N with h0 | h0
      · subst h0
        go_wp2_with fail
        refine HKN.mono ?_
        rintro e w4 ⟨rfl, hb4⟩
        have HB4 : Hid (Below w.heap.size w w4) := HB3.out.trans (hb4.mono HB3.out.size)
        clear hb4 HKN
        have HA := awake21_any w4
        go_wp2_with fail
        refine HA.mono ?_
        rintro e w6 ⟨rfl, hb6⟩
        have HB6 : Hid (Below w.heap.size w w6) := HB4.out.trans (hb6.mono HB4.out.size)
        clear hb6
        go_wp2
        go_ret
        exact ⟨rfl, HB6.out⟩
      · have hni : ¬ (0 : Int) = (N : Int) := by omega
        go_wp2_with fail
        refine HKN.mono ?_
        rintro e w4 ⟨rfl, hb4⟩
        have HB4 : Hid (Below w.heap.size w w4) := HB3.out.trans (hb4.mono HB3.out.size)
        clear hb4 HKN
        have HA := awake21_any w4
        go_wp2_with fail
        refine HA.mono ?_
        rintro e w6 ⟨rfl, hb6⟩
        have HB6 : Hid (Below w.heap.size w w6) := HB4.out.trans (hb6.mono HB4.out.size)
        clear hb6
        go_wp2
        go_ret
        exact ⟨rfl, HB6.out⟩
end Go.Proofs.Ytkfaoldpcgokiaa
