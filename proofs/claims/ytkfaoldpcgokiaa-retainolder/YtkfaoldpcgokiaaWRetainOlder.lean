/- The walk of RetainOlder: older snapshots don't matter to which of the newer ones are kept. -/
import Derived.Test.YtkfaoldpcgokiaaRetO
import Derived.Deep.RegionHeld3
namespace Go.Proofs.Ytkfaoldpcgokiaa
open Go.RowKit
set_option linter.unusedVariables false
set_option linter.unusedSimpArgs false

theorem Try.undSn : Try.prog.underlying 25 = some (.slice (Try.prog.elem 25)) := by kernel_rfl
theorem Try.szSn (W : World) : (sizeOf (Try.prog.elem 25)).run Try.prog W = .ok 3 W := by kernel_rfl
/-- v[m:] -/
theorem cut_sn {w : World} {B : Nat} {a : Option Addr} {N cap : Nat} {l : List Sn} (h : SV w B (.slice a N cap) l) (m : Nat) (hm : m ≤ N) :
    ∃ a2, (∀ W, (Instr.slice 25 (.slice a N cap) (some (.int .i64 (m : Int))) none none).run Try.prog W = .ok (.slice a2 (N - m) (cap - m)) W) ∧ SV w B (.slice a2 (N - m) (cap - m)) (l.drop m) := by
  obtain ⟨a', cap', e, hc, hz, hf⟩ := h
  injection e with e1 e2 e3
  subst e1 e3
  refine ⟨if cap = m then a else a.map (·.add (m * 3)), fun W => ?_, _, _, by rw [List.length_drop, e2], by rw [List.length_drop]; omega, fun hn => ?_, fun hne => ?_⟩
  · rw [run_slice_l (ht := Try.undSn) (h0 := by omega) (h1 := by omega), Try.szSn]
    simp [Result.andThen, sliced]
  · split at hn
    · omega
    · cases a with
      | none => have := hz rfl; omega
      | some x => cases hn
  · have hlt : m < l.length := by
      rcases Nat.lt_or_ge m l.length with h | h
      · exact h
      · exact absurd (List.drop_eq_nil_of_le h) hne
    obtain ⟨g, o, rfl, hg, hgs, hcl⟩ := hf (fun e => by rw [e] at hlt; simp at hlt)
    refine ⟨g, o + m * 3, ?_, hg, hgs, fun j u hu => ?_⟩
    · rw [if_neg (by omega), Option.map_some, Addr.add_mid]
    · rw [snsC_drop, List.getElem?_drop] at hu
      have := hcl _ u hu
      rwa [← Nat.add_assoc] at this
theorem tmB_drop : ∀ (l : List Sn) (a : Int) (n : Nat), tmB a l = true → 0 ≤ a → tmB 0 (l.drop n) = true
  | [], a, n, h, h0 => by simp [tmB]
  | x :: r, a, 0, h, h0 => by
    rw [tmB, Bool.and_eq_true, decide_eq_true_eq] at h
    rw [List.drop_zero, tmB, Bool.and_eq_true, decide_eq_true_eq]
    exact ⟨⟨by omega, h.1.2⟩, h.2⟩
  | x :: r, a, n + 1, h, h0 => by
    rw [tmB, Bool.and_eq_true, decide_eq_true_eq] at h
    rw [List.drop_succ_cons]
    exact tmB_drop r x.t n h.2 (by omega)
theorem err_zero {p : Pol} {l : List Sn} (h : errR p l = 0) : ¬ p.neg ∧ tmB 0 l = true := by
  have hneg : ¬ p.neg := fun hn => by unfold errR at h; rw [if_pos hn] at h; cases h
  refine ⟨hneg, ?_⟩
  unfold errR tmE at h; rw [if_neg hneg] at h
  by_cases hh : tmB 0 l = true
  · exact hh
  · rw [if_neg hh] at h; cases h
theorem err_of {p : Pol} {l : List Sn} (h1 : ¬ p.neg) (h2 : tmB 0 l = true) : errR p l = 0 := by
  unfold errR; rw [if_neg h1, tmE_yes h2]
theorem err_drop {p : Pol} {l : List Sn} (h : errR p l = 0) (n : Nat) : errR p (l.drop n) = 0 := by
  obtain ⟨h1, h2⟩ := err_zero h
  exact err_of h1 (tmB_drop l 0 n h2 (Int.le_refl _))
theorem bF_drop (l : List Bool) (n i : Nat) : bF (l.drop n) i = bF l (n + i) := by
  unfold bF; rw [List.getD_eq_getElem?_getD, List.getElem?_drop, List.getD_eq_getElem?_getD]
set_option maxRecDepth 100000 in
set_option maxHeartbeats 2000000 in
theorem lawRetainOlder_walk (p : Pol) (tv : Value) (a : Option Addr) (len cap : Nat) (l0 : List Sn) (n : Int) (w : World) (hP : PolS w p tv) (hS : IsSns w a len cap l0) (hn : -9223372036854775808 ≤ n ∧ n ≤ 9223372036854775807) :
    Calls Try.prog 6 #[polV p tv, .slice a len cap, .int .i64 n] w fun e w' => e = .returned (.bool true) ∧ Below w.heap.size w w' := by
  obtain ⟨hll, hl63, hok, hV⟩ := hS
  obtain ⟨hn1, hn2⟩ := hn
  obtain ⟨W1, hW1⟩ : ∃ W1, W1 = w.alloc (.cells #[.int .i64 p.a, .int .i64 p.d, .int .i64 p.k, .int .i64 p.m, tv] 24) := ⟨_, rfl⟩
  have hB1 : Below w.heap.size w W1 := by rw [hW1]; exact (Below.refl _ w).alloc (Nat.le_refl _) _
  have hN1 : W1.heap[w.heap.size]? = some (.cells #[.int .i64 p.a, .int .i64 p.d, .int .i64 p.k, .int .i64 p.m, tv] 24 (0, 0)) := by rw [hW1]; exact heap_alloc_new w _
  have HN1 : Hid (W1.heap[w.heap.size]? = some (.cells #[.int .i64 p.a, .int .i64 p.d, .int .i64 p.k, .int .i64 p.m, tv] 24 (0, 0))) := hN1
  have HB1 : Hid (Below w.heap.size w W1) := hB1
  have HF := few21_any a len cap l0 W1 ((hV.below hB1).mono hB1.size) hll hl63
  have HG : Hid (∀ x ∈ l0.take 25, x.g.length ≤ 9223372036854775807) := fun x hx => (hok x (List.mem_of_mem_take hx)).2.2
  have hl25 : (l0.take 25).length ≤ 25 := by rw [List.length_take]; omega
  have HPI : Hid (PolIn w w.heap.size p tv) := hP.h
  have hzw : w.heap.size < W1.heap.size := (Array.getElem?_eq_some_iff.1 hN1).1
  generalize l0.take 25 = l at *
  obtain ⟨ta, tc, rfl, -, -⟩ := hP.h.tv
  generalize p.tg.length = m at *
  rw [hW1] at HF
  have HW1 : Hid (w.alloc (.cells #[.int .i64 p.a, .int .i64 p.d, .int .i64 p.k, .int .i64 p.m, .slice ta m tc] 24) = W1) := hW1.symm
  clear hV hok hN1 hB1 hP hW1 hll
  unfold polV
  go_enter Try.func6, Try.ntmps6
  go_wp2_with fail
  refine HF.mono ?_
  rintro e w2 ⟨fa, fc, rfl, hO, hb2⟩
  rw [show w.alloc (.cells #[.int .i64 p.a, .int .i64 p.d, .int .i64 p.k, .int .i64 p.m, .slice ta m tc] 24) = W1 from HW1.out] at hb2
  have HB2 : Hid (Below w.heap.size w w2) := HB1.out.trans (hb2.mono HB1.out.size)
  have hN2 : w2.heap[w.heap.size]? = _ := (hb2.block _ hzw).trans HN1.out
  have HN2 : Hid (w2.heap[w.heap.size]? = some (.cells #[.int .i64 p.a, .int .i64 p.d, .int .i64 p.k, .int .i64 p.m, .slice ta m tc] 24 (0, 0))) := hN2
  have hz2 : w.heap.size < w2.heap.size := (Array.getElem?_eq_some_iff.1 hN2).1
  have HV2 : Hid (SV w2 w2.heap.size (.slice fa l.length fc) l) := hO.sv
  have HP2 : Hid (PolIn w2 w2.heap.size p (.slice ta m tc)) := (HPI.out.below HB2.out).mono HB2.out.size
  have c0 : w2.cell? ⟨w.heap.size, 0, none⟩ = some (.int .i64 p.a) := by unfold World.cell?; rw [hN2]; rfl
  have c1 : w2.cell? ⟨w.heap.size, 1, none⟩ = some (.int .i64 p.d) := by unfold World.cell?; rw [hN2]; rfl
  have c2 : w2.cell? ⟨w.heap.size, 2, none⟩ = some (.int .i64 p.k) := by unfold World.cell?; rw [hN2]; rfl
  have c3 : w2.cell? ⟨w.heap.size, 3, none⟩ = some (.int .i64 p.m) := by unfold World.cell?; rw [hN2]; rfl
  have c4 : w2.cell? ⟨w.heap.size, 4, none⟩ = some (.slice ta m tc) := by unfold World.cell?; rw [hN2]; rfl
  clear hN2 hO hb2 HB1 HN1 HW1 HF
  by_cases he : errR p l = 0
  · have HK := keep_good p (.slice ta m tc) _ l w2 HP2.out HV2.out (by omega) HG.out he
    have HE : Hid (errR p l = 0) := he
    unfold polV at HK
    clear he
    obtain ⟨N, hN⟩ : ∃ N, N = l.length := ⟨_, rfl⟩
    have HN : Hid (N = l.length) := hN
    rw [← hN] at HK HV2 hl25 ⊢
    clear hN
    go_wp2_with fail
    refine HK.mono ?_
    rintro e w3 ⟨g, rfl, hg1, hR, hb3⟩
    have HR : Hid (BR w3 g N (bF (kpL p l))) := hR
    have HB3 : Hid (Below w.heap.size w w3) := HB2.out.trans (hb3.mono HB2.out.size)
    have hgl := hR.lt
    by_cases hin : 0 ≤ n ∧ n ≤ (N : Int)
    · obtain ⟨h0, h1⟩ := hin
      obtain ⟨q, hq⟩ : ∃ q : Nat, n = (q : Int) := ⟨n.toNat, by omega⟩
      subst hq
      have hqN : q ≤ N := by omega
      have HV3 := HV2.out.below hb3
      obtain ⟨a2, hrun, hV4⟩ := cut_sn HV3 q hqN
      have hN3 : w3.heap[w.heap.size]? = _ := (hb3.block _ hz2).trans HN2.out
      have d0 : w3.cell? ⟨w.heap.size, 0, none⟩ = some (.int .i64 p.a) := by unfold World.cell?; rw [hN3]; rfl
      have d1 : w3.cell? ⟨w.heap.size, 1, none⟩ = some (.int .i64 p.d) := by unfold World.cell?; rw [hN3]; rfl
      have d2 : w3.cell? ⟨w.heap.size, 2, none⟩ = some (.int .i64 p.k) := by unfold World.cell?; rw [hN3]; rfl
      have d3 : w3.cell? ⟨w.heap.size, 3, none⟩ = some (.int .i64 p.m) := by unfold World.cell?; rw [hN3]; rfl
      have d4 : w3.cell? ⟨w.heap.size, 4, none⟩ = some (.slice ta m tc) := by unfold World.cell?; rw [hN3]; rfl
      have hz3 : w.heap.size < w3.heap.size := (Array.getElem?_eq_some_iff.1 hN3).1
      have hlq : (l.drop q).length = N - q := by rw [List.length_drop, ← HN.out]
      have HLQ : Hid ((l.drop q).length = N - q) := hlq
      have HK2 : Hid (∀ W, Below w3.heap.size w3 W → Calls Try.prog 8 #[.agg #[.int .i64 p.a, .int .i64 p.d, .int .i64 p.k, .int .i64 p.m, .slice ta m tc], .slice a2 (N - q) (fc - q)] W fun e w' => ∃ g, e = .returned (.tuple #[.slice (some ⟨g, 0, none⟩) (N - q) (N - q), .int .i64 0]) ∧ w3.heap.size ≤ g ∧ BR w' g (N - q) (bF (kpL p (l.drop q))) ∧ Below w3.heap.size w3 w') := fun W hW => by
        have hbd : Below w2.heap.size w2 W := hb3.trans (hW.mono hb3.size)
        have := keep_good p (.slice ta m tc) _ (l.drop q) W ((HP2.out.below hbd).mono hbd.size) ((hV4.below (hW.mono hb3.size)).mono hbd.size) (by have := HLQ.out; omega) (fun x hx => HG.out x (List.mem_of_mem_drop hx)) (err_drop HE.out q)
        rw [HLQ.out] at this
        refine this.mono ?_
        rintro e w' ⟨g', e1, e2, e3, e4⟩
        exact ⟨g', e1, Nat.le_trans hW.size e2, e3, hW.trans (e4.mono hW.size)⟩
      have HS : Hid (∀ W, Below w3.heap.size w3 W → W.cell? ⟨w.heap.size, 0, none⟩ = some (.int .i64 p.a) ∧ W.cell? ⟨w.heap.size, 1, none⟩ = some (.int .i64 p.d) ∧ W.cell? ⟨w.heap.size, 2, none⟩ = some (.int .i64 p.k) ∧ W.cell? ⟨w.heap.size, 3, none⟩ = some (.int .i64 p.m) ∧ W.cell? ⟨w.heap.size, 4, none⟩ = some (.slice ta m tc)) := fun W hW => by
        refine ⟨?_, ?_, ?_, ?_, ?_⟩
        · rw [hW.cell (p := ⟨w.heap.size, 0, none⟩) hz3]; exact d0
        · rw [hW.cell (p := ⟨w.heap.size, 1, none⟩) hz3]; exact d1
        · rw [hW.cell (p := ⟨w.heap.size, 2, none⟩) hz3]; exact d2
        · rw [hW.cell (p := ⟨w.heap.size, 3, none⟩) hz3]; exact d3
        · rw [hW.cell (p := ⟨w.heap.size, 4, none⟩) hz3]; exact d4
      have hch0 : Below w3.heap.size w3 w3.drew := (Below.refl _ _).drew
      have hS0 := HS.out _ hch0
      have HBC : Hid (∀ i, i < N - q → bF (kpL p (l.drop q)) i = bF (kpL p l) (q + i)) := fun i _ => by rw [kpL_drop, bF_drop]
      have hwq : IntKind.i64.wrap ((N : Int) - (q : Int)) = ((N - q : Nat) : Int) := by rw [IntKind.wrap_i64]; omega
      clear hb3 hR hg1 c0 c1 c2 c3 c4 d0 d1 d2 d3 d4 hN3 hV4 HV3 hlq HK
      go_upto_region 5 with fail
      go_region_held3 (fun W : World => W.cell? ⟨w.heap.size, 0, none⟩ = some (.int .i64 p.a) ∧ W.cell? ⟨w.heap.size, 1, none⟩ = some (.int .i64 p.d) ∧ W.cell? ⟨w.heap.size, 2, none⟩ = some (.int .i64 p.k) ∧ W.cell? ⟨w.heap.size, 3, none⟩ = some (.int .i64 p.m) ∧ W.cell? ⟨w.heap.size, 4, none⟩ = some (.slice ta m tc)) (first | exact hS0 | exact HS.out _ hb4) ((go_at_call 8; refine (HK2.out _ (by assumption)).mono ?_; rintro e w4 ⟨g4, rfl, hg4, hR4, hb4⟩))
      have HR4 : Hid (BR w4 g4 (N - q) (bF (kpL p (l.drop q)))) := hR4
      have HB4 : Hid (Below w3.heap.size w3 w4) := hb4
      have HB5 : Hid (Below w.heap.size w w4) := HB3.out.trans (hb4.mono HB3.out.size)
      have HRA : Hid (BR w4 g N (bF (kpL p l))) := HR.out.keep (hb4.block g hgl)
      have hg4l := hR4.lt
      have hgl4 := HRA.out.lt
      clear hR4 hb4 hch0 hS0 hrun HK2 HS HR hg4
      obtain ⟨M, hM⟩ : ∃ M, M = N - q := ⟨_, rfl⟩
      have HM : Hid (M = N - q) := hM
      rw [← hM] at HR4 hwq HBC ⊢
      have hMN : q + M ≤ N := by omega
      clear hM
      go_wp2
      go_loopw [62] (fun i wr => ∃ j n : Nat, j ≤ M ∧ i = .int .i64 (j : Int) ∧ wr = w4.drewN n) (fun i _ => M - (intOf i).toNat)
      case atStart => exact ⟨0, 0, Nat.zero_le _, rfl, rfl⟩
      case round =>
        obtain ⟨j, nn, hj, rfl, rfl⟩ := hrel
        by_cases hlt : j < M
        · have hlti : (j : Int) < (M : Int) := by omega
          have k0 := HR4.out.cell j hlt
          have k1 := HRA.out.cell (q + j) (by omega)
          rw [HBC.out j hlt] at k0
          generalize bF (kpL p l) (q + j) = bb at *
          have hws : IntKind.i64.wrap ((q : Int) + (j : Int)) = ((q + j : Nat) : Int) := by rw [IntKind.wrap_i64]; omega
          have hqj : q + j < N := by omega
          go_upto_region 11 with fail
          go_quiet (fail)
          go_wp2
          go_roundw
          case rel => exact ⟨j + 1, _, by omega, by go_num, rfl⟩
          case measure => simp [intOf]; omega
        · have hlti : ¬ (j : Int) < (M : Int) := by omega
          have HA := awake21_any (w4.drewN nn)
          go_wp2_with fail
          refine HA.mono ?_
          rintro e w6 ⟨rfl, hb6⟩
          have HB6 : Hid (Below w.heap.size w w6) := HB5.out.trans (Below.mono ⟨hb6.os, hb6.tape, hb6.output, hb6.size, hb6.block⟩ HB5.out.size)
          clear hb6
          go_wp2
          go_ret
          exact ⟨rfl, HB6.out⟩
    · have HA := awake21_any w3
      clear hb3 hR hg1
      rcases (by omega : n < 0 ∨ (0 ≤ n ∧ (N : Int) < n)) with h0 | ⟨h0, h1⟩
      all_goals clear hin
      all_goals go_wp2_with fail
      all_goals refine HA.mono ?_
      all_goals rintro e w6 ⟨rfl, hb6⟩
      all_goals have HB6 : Hid (Below w.heap.size w w6) := HB3.out.trans (hb6.mono HB3.out.size)
      all_goals clear hb6
      all_goals go_wp2
      all_goals go_ret
      all_goals exact ⟨rfl, HB6.out⟩
  · have HK := keep_bad p (.slice ta m tc) _ l w2 HP2.out HV2.out (by omega) he
    unfold polV at HK
    have hbe : (errR p l == 0) = false := by rw [beq_eq_false_iff_ne]; exact he
    generalize errR p l = E at *
    go_wp2_with fail
    refine HK.mono ?_
    rintro e w3 ⟨rfl, hb3⟩
    have HB3 : Hid (Below w.heap.size w w3) := HB2.out.trans (hb3.mono HB2.out.size)
    clear hb3
    have HA := awake21_any w3
    go_wp2_with fail
    refine HA.mono ?_
    rintro e w6 ⟨rfl, hb6⟩
    have HB6 : Hid (Below w.heap.size w w6) := HB3.out.trans (hb6.mono HB3.out.size)
    clear hb6
    go_wp2
    go_ret
    exact ⟨rfl, HB6.out⟩
end Go.Proofs.Ytkfaoldpcgokiaa
