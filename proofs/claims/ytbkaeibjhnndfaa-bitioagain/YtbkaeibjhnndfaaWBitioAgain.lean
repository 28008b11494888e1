/- The walk of the law BitioAgain: it returns true at every input. -/
import Derived.Test.YtbkaeibjhnndfaaAwake3
import Derived.Test.YtbkaeibjhnndfaaActPut
import Derived.Deep.DeepCutAuto
namespace Go.Proofs.Ytbkaeibjhnndfaa
open Go.RowKit
set_option linter.unusedVariables false
theorem below_trans {a b c : World} (h : Below a.heap.size a b) (k : Below b.heap.size b c) : Below a.heap.size a c := h.trans (k.mono h.size)
theorem Try.zeroAct : (Try.prog.info? 31).map (fun i => (i.zero, i.size)) = some (some (.agg #[.int .i64 0, .int .i64 0, .int .u32 0, .string ⟨#[]⟩]), 4) := by kernel_rfl
set_option maxRecDepth 100000 in
set_option maxHeartbeats 4000000 in
theorem lawBitioAgain_walk (a : Option Addr) (len cap : Nat) (A : Nat → ActD) (w : World) (hA : IsActs w a len cap A) :
    Calls Try.prog 5 #[.slice a len cap] w fun e w' => e = .returned (.bool true) ∧ Below w.heap.size w w' := by
  have hz := (zero_of_info Try.zeroSnk).1
  have hza := (zero_of_info Try.zeroAct).1
  have hlen := hA.len_le
  have HA : Hid (IsActs w a len cap A) := hA
  have HZ : Hid (SinkAt (w.alloc (.cells snk0 41)) w.heap.size (putL A 0)) := sink_zero w
  have HB0 : Hid (Below w.heap.size w (w.alloc (.cells snk0 41))) := (Below.refl _ w).alloc (Nat.le_refl _) _
  clear hA
  obtain ⟨K, hK⟩ : ∃ K, K = min len 60 := ⟨_, rfl⟩
  have hK60 : K ≤ 60 := by omega
  have hKl : K ≤ len := by omega
  have HK : Hid (∀ k, k ≤ K → ¬ k < K → ¬ (k < len ∧ k < 60)) := fun k h1 h2 => by omega
  have HK2 : Hid (∀ k, k < K → (k < len ∧ k < 60)) := fun k h1 => by omega
  clear hK
  obtain ⟨g, hg⟩ : ∃ g, g = w.heap.size := ⟨_, rfl⟩
  have hgw : w.heap.size ≤ g := by omega
  go_enter Try.func5, Try.ntmps5
  go_wp2
  rw [← hg]
  have HZ2 : Hid (SinkAt (w.alloc (.cells snk0 41)) g (putL A 0)) := by rw [hg]; exact HZ.out
  clear hg HZ hz
  generalize w.alloc (.cells snk0 41) = W1 at *
  go_loopw [4] (fun i wr => ∃ k : Nat, k ≤ K ∧ i = .int .i64 (k : Int) ∧ SinkAt wr g (putL A k) ∧ Below w.heap.size w wr) (fun i _ => K - (intOf i).toNat)
  case atStart => exact ⟨0, by omega, rfl, HZ2.out, HB0.out⟩
  case round =>
    clear HZ2 HB0
    obtain ⟨k, hk, rfl, hS, hB⟩ := hrel
    by_cases hlt : k < K
    · obtain ⟨hl1, hl2⟩ := HK2.out k hlt
      obtain ⟨b, o, rfl, hbl, hlc, hok, c0, c1, c2, c3⟩ := HA.out.at hB k hl1
      have hP := actPut_any g (A k) (putL A k) wr hok hS (by have := putL_len A k; omega)
      have hi0 : (0 : Int) ≤ (k : Int) := by omega
      have hi1 : (k : Int) < (len : Int) := by omega
      have hi2 : (k : Int) < 60 := by omega
      go_wp2_with fail
      refine hP.mono ?_
      rintro e w1 ⟨rfl, hS1, hG1⟩
      have hB1 : Below w.heap.size w w1 := hB.grown hG1 hB.size (fun q hq => by cases hq; exact hgw)
      clear hB hG1 hS c0 c1 c2 c3
      go_wp2
      go_roundw
      case rel => exact ⟨k + 1, by omega, by go_num, hS1, hB1⟩
      case measure => simp [intOf]; omega
    · obtain rfl : k = K := by omega
      have hnot := HK.out k (Nat.le_refl _) hlt
      have hLn := putL_len A k
      have HSm : Hid (∀ W, SinkAt W g (putL A k) → Calls Try.prog 27 #[.pointer (some ⟨g, 0, none⟩)] W fun e w' => e = .returned (.string (packS (putL A k))) ∧ Below W.heap.size W w') := fun W h => all_any g _ W h (by omega)
      obtain ⟨T, hT⟩ : ∃ T, T = packS (putL A k) := ⟨_, rfl⟩
      have hTs : T.size = ((putL A k).length + 7) / 8 := by rw [hT, packS_size]
      have HTd : Hid (T.data.toList = packL (putL A k)) := by unfold Hid; rw [hT]; rfl
      have HTe : Hid (T = packS (putL A k)) := hT
      rw [← hT] at HSm
      clear hT
      by_cases hkl : k < len
      all_goals
        try have hk60 : ¬ (k : Int) < 60 := fun h => hnot ⟨hkl, by omega⟩
        clear hnot
        go_wp2_with fail
        refine (HSm.out _ hS).mono ?_
        rintro e w2 ⟨rfl, hb2⟩
        have hS2 := hS.below hb2
        have hB2 := hB.trans (hb2.mono hB.size)
        clear hS hB hb2 HSm
        go_wp2_with fail
        refine (srcOf_any T _).mono ?_
        rintro e w3 ⟨gx, rfl, hX3, hgx, hb3⟩
        have HS2 : Hid (SinkAt w2 g (putL A k)) := hS2
        have HB2 : Hid (Below w.heap.size w w2) := hB2
        have hs2 := hB2.size
        clear hS2 hB2
        go_wp2
        go_loopw [6] (fun i wr => ∃ m : Nat, m ≤ k ∧ i = .int .i64 (m : Int) ∧ SrcAt wr gx T (putL A m).length ∧ Below w2.heap.size w2 wr) (fun i _ => k - (intOf i).toNat)
        case atStart => exact ⟨0, by omega, rfl, hX3, hb3⟩
        case round =>
          clear hX3 hb3
          obtain ⟨m, hm, rfl, hX, hB⟩ := hrel
          by_cases hml : m < k
          · obtain ⟨hl1, hl2⟩ := HK2.out m hml
            have hBw : Below w.heap.size w wr := HB2.out.trans (hB.mono hs2)
            obtain ⟨b, o, rfl, hbl, hlc, hok, c0, c1, c2, c3⟩ := HA.out.at hBw m hl1
            have hi0 : (0 : Int) ≤ (m : Int) := by omega
            have hi1 : (m : Int) < (len : Int) := by omega
            have hi2 : (m : Int) < 60 := by omega
            have hLm := putL_len A m
            have HT0 : Hid ((A m).kind = 0 → _ = _) := take_again A m k hml
            have HT1 : Hid ((A m).kind = 1 → _ = _) := turn_again A m k hml
            have HT3 : Hid ((A m).kind = 3 → _ = _) := text_again A m k hml
            have HN0 : Hid ((A m).kind = 0 → putL A (m + 1) = _) := fun h => act0 (putL A m) h
            have HN1 : Hid ((A m).kind = 1 → putL A (m + 1) = _) := fun h => act1 (putL A m) h
            have HN2 : Hid ((A m).kind = 2 → putL A (m + 1) = _) := fun h => act2 (putL A m) h
            have HN3 : Hid ((A m).kind = 3 → putL A (m + 1) = _) := fun h => act3 (putL A m) h
            have HN4 : Hid ((A m).kind ≠ 0 → (A m).kind ≠ 1 → (A m).kind ≠ 2 → (A m).kind ≠ 3 → putL A (m + 1) = _) := fun h0 h1 h2 h3 => act4 (putL A m) h0 h1 h2 h3
            rw [← HTd.out] at HT0 HT1
            rw [← HTe.out] at HT3
            obtain ⟨q0, q1, q2, q3⟩ := hok
            generalize (A m).kind = dk at *
            generalize (A m).n = dn at *
            generalize (A m).x = dx at *
            generalize (A m).s = ds at *
            have hnear : near dn 32 ≤ 32 := near_le dn 32
            have hnz : 0 < 2 ^ near dn 32 := Nat.two_pow_pos _
            obtain ⟨mm, hmm⟩ : ∃ mm, mm = near dn 32 := ⟨_, rfl⟩
            have HMM : Hid ((mm : Int) = max 0 (min dn 32)) := by unfold Hid; rw [hmm, near_eq dn 32 (by decide)]; omega
            rw [← hmm] at HT0 HT1 HN0 HN1 hnear hnz
            have HmmE : Hid (mm = near dn 32) := hmm
            clear hmm hBw
            have HX1 : Hid (SrcAt (wr.alloc (.cells #[.int .i64 dk, .int .i64 dn, .int .u32 (dx : Int), .string ds] 31)) gx T (putL A m).length) := hX.below ((Below.refl _ wr).alloc (Nat.le_refl _) _)
            have HB1 : Hid (Below w2.heap.size w2 (wr.alloc (.cells #[.int .i64 dk, .int .i64 dn, .int .u32 (dx : Int), .string ds] 31))) := hB.alloc hB.size _
            go_upto_region 13 with fail
            go_cut [8] (fun v wx => v = .int .i64 (mm : Int) ∧ wx = wr.alloc (.cells #[.int .i64 dk, .int .i64 dn, .int .u32 (dx : Int), .string ds] 31))
            case first =>
              go_wp2
              all_goals (go_meet; exact ⟨congrArg _ (by have := HMM.out; omega), rfl⟩)
            case rest =>
              obtain ⟨rfl, rfl⟩ := hcut
              clear c0 c1 c2 c3 hX hB
              have d0 : (wr.alloc (.cells #[.int .i64 dk, .int .i64 dn, .int .u32 (dx : Int), .string ds] 31)).cell? ⟨wr.heap.size, 0, none⟩ = some (.int .i64 dk) := by rw [cell_of_row _ _ _ _ _ _ (heap_alloc_new wr _)]; rfl
              have d1 : (wr.alloc (.cells #[.int .i64 dk, .int .i64 dn, .int .u32 (dx : Int), .string ds] 31)).cell? ⟨wr.heap.size, 1, none⟩ = some (.int .i64 dn) := by rw [cell_of_row _ _ _ _ _ _ (heap_alloc_new wr _)]; rfl
              have d2 : (wr.alloc (.cells #[.int .i64 dk, .int .i64 dn, .int .u32 (dx : Int), .string ds] 31)).cell? ⟨wr.heap.size, 2, none⟩ = some (.int .u32 (dx : Int)) := by rw [cell_of_row _ _ _ _ _ _ (heap_alloc_new wr _)]; rfl
              have d3 : (wr.alloc (.cells #[.int .i64 dk, .int .i64 dn, .int .u32 (dx : Int), .string ds] 31)).cell? ⟨wr.heap.size, 3, none⟩ = some (.string ds) := by rw [cell_of_row _ _ _ _ _ _ (heap_alloc_new wr _)]; rfl
              generalize wr.alloc (.cells #[.int .i64 dk, .int .i64 dn, .int .u32 (dx : Int), .string ds] 31) = W at *
              generalize wr.heap.size = gd at *
              have m0 : (0 : Int) ≤ (mm : Int) := by omega
              have m1 : (mm : Int) ≤ 32 := by omega
              obtain ⟨PP, hPP⟩ : ∃ PP, PP = 2 ^ mm := ⟨_, rfl⟩
              have hPb : PP ≤ 4294967296 := by rw [hPP]; exact Nat.pow_le_pow_right (n := 2) (i := mm) (j := 32) (by decide) (by omega)
              obtain ⟨RR, hRR⟩ : ∃ RR, RR = dx % PP := ⟨_, rfl⟩
              have hRb : RR < 4294967296 := by have := Nat.mod_le dx PP; omega
              have e1 : IntKind.u64.wrap (dx : Int) = (dx : Int) := by simp [IntKind.wrap, IntKind.bits, IntKind.signed]; omega
              have e2 : IntKind.u64.wrap ((2 : Int) ^ mm) = (PP : Int) := by
                have : ((2 : Int) ^ mm) = (PP : Int) := by rw [hPP]; simp
                rw [this]; simp [IntKind.wrap, IntKind.bits, IntKind.signed]; omega
              rw [← hPP] at HT0 HT1 hnz
              rw [← hRR] at HT0 HT1
              have e3 : (dx : Int).tmod (PP : Int) = (RR : Int) := by rw [Int.tmod_eq_emod_of_nonneg (by omega), hRR]; rfl
              have e4 : IntKind.u64.wrap (RR : Int) = (RR : Int) := by simp [IntKind.wrap, IntKind.bits, IntKind.signed]; omega
              have e5 : IntKind.u32.wrap (RR : Int) = (RR : Int) := by simp [IntKind.wrap, IntKind.bits, IntKind.signed]; omega
              have e6 : ¬ (PP : Int) = 0 := by omega
              clear hPP hRR
              go_wp2
              go_quiet (fail)
              have HX2 : Hid (SrcAt (W.drewN nq) gx T (putL A m).length) := HX1.out.drewN nq
              have HB2' : Hid (Below w2.heap.size w2 (W.drewN nq)) := below_drewN HB1.out nq
              have hpl : (putL A m).length ≤ 100000 := by omega
              have hT5 : T.size ≤ 100000 := by omega
              have f0 : (W.drewN nq).cell? ⟨gd, 0, none⟩ = some (.int .i64 dk) := d0
              have f1 : (W.drewN nq).cell? ⟨gd, 1, none⟩ = some (.int .i64 dn) := d1
              have f3 : (W.drewN nq).cell? ⟨gd, 3, none⟩ = some (.string ds) := d3
              clear d0 d1 d2 d3 HX1 HB1 e1 e2 e3 e4 e5 e6 hTs
              generalize W.drewN nq = W' at *
              have HFIN : Hid (∀ wf q, SrcAt wf gx T q → W'.grownBy wf (some gx) → q = (putL A (m + 1)).length → (SrcAt wf gx T (putL A (m + 1)).length ∧ Below w2.heap.size w2 wf)) := fun wf q h1 h2 h3 => ⟨by rw [← h3]; exact h1, HB2'.out.grown h2 HB2'.out.size (fun z hz => by cases hz; exact hgx)⟩
              by_cases k0 : dk = 0
              · subst k0
                have hV := HT0.out rfl
                have hL : (putL A m).length + mm = (putL A (m + 1)).length := by rw [HN0.out rfl, List.length_append, lowB_len]
                go_wp2_with fail
                refine (take_any gx T _ dn _ HX2.out (by omega) (by omega) q1).mono ?_
                rw [← HmmE.out, hV]
                rintro e w5 ⟨rfl, hX5, hG5⟩
                obtain ⟨hX6, hB6⟩ := HFIN.out _ _ hX5 hG5 hL
                clear hX5 hG5 hV hL f0 f1 f3
                go_wp2
                go_roundw
                case rel => exact ⟨m + 1, by omega, by go_num, hX6, hB6⟩
                case measure => simp [intOf]; omega
              by_cases k1 : dk = 1
              · subst k1
                have hV := HT1.out rfl
                have hL : (putL A m).length + mm = (putL A (m + 1)).length := by rw [HN1.out rfl, List.length_append, highB_len]
                go_wp2_with fail
                refine (turned_any gx T _ dn _ HX2.out (by omega) (by omega) q1).mono ?_
                rw [← HmmE.out, hV]
                rintro e w5 ⟨rfl, hX5, hG5⟩
                obtain ⟨hX6, hB6⟩ := HFIN.out _ _ hX5 hG5 hL
                clear hX5 hG5 hV hL f0 f1 f3
                go_wp2
                go_roundw
                case rel => exact ⟨m + 1, by omega, by go_num, hX6, hB6⟩
                case measure => simp [intOf]; omega
              by_cases k2 : dk = 2
              · subst k2
                have hL : ((putL A m).length + 7) / 8 * 8 = (putL A (m + 1)).length := by rw [HN2.out rfl, evenL_len]
                go_wp2_with fail
                refine (seven_any gx T _ _ HX2.out (by omega)).mono ?_
                rintro e w5 ⟨rfl, hX5, hG5⟩
                obtain ⟨hX6, hB6⟩ := HFIN.out _ _ hX5 hG5 hL
                clear hX5 hG5 hL f0 f1 f3
                go_wp2
                go_roundw
                case rel => exact ⟨m + 1, by omega, by go_num, hX6, hB6⟩
                case measure => simp [intOf]; omega
              by_cases k3 : dk = 3
              · subst k3
                have hV := HT3.out rfl
                have h40 := few40_size ds
                have hnr : near ((few40 ds).size : Int) 65536 = (few40 ds).size := by unfold near; omega
                have hL : ((putL A m).length + 7) / 8 * 8 + 8 * near ((few40 ds).size : Int) 65536 = (putL A (m + 1)).length := by rw [HN3.out rfl, List.length_append, evenL_len, rowOf_len, size_toList, hnr]
                clear hnr
                go_wp2_with fail
                refine (few_40 _ _ q3).mono ?_
                rintro e w4 ⟨rfl, rfl⟩
                go_wp2_with fail
                refine (stext_any gx T _ ((few40 ds).size : Int) _ HX2.out (by omega) (by omega) (by omega)).mono ?_
                rw [hV]
                rintro e w5 ⟨rfl, hX5, hG5⟩
                obtain ⟨hX6, hB6⟩ := HFIN.out _ _ hX5 hG5 hL
                clear hX5 hG5 hV hL f0 f1 f3
                go_wp2
                go_roundw
                case rel => exact ⟨m + 1, by omega, by go_num, hX6, hB6⟩
                case measure => simp [intOf]; omega
              · have hL : (putL A m).length = (putL A (m + 1)).length := by rw [HN4.out k0 k1 k2 k3]
                obtain ⟨hX6, hB6⟩ := HFIN.out _ _ HX2.out (grefl W' _) hL
                have z0 := kind_ne k0
                have z1 := kind_ne k1
                have z2 := kind_ne k2
                have z3 := kind_ne k3
                clear hL
                go_wp2
                go_roundw
                case rel => exact ⟨m + 1, by omega, by go_num, hX6, hB6⟩
                case measure => simp [intOf]; omega
          · obtain rfl : m = k := by omega
            have hS6 := HS2.out.below hB
            have HTS : Hid (T.size = ((putL A m).length + 7) / 8) := hTs
            have hT5 : T.size ≤ 100000 := by omega
            have hdec : decide (8 * T.size < (putL A m).length) = false := decide_eq_false (by have := HTS.out; omega)
            have hBw : Below w.heap.size w wr := HB2.out.trans (hB.mono hs2)
            clear hTs hB
            go_wp2_with fail
            refine (awake3_any _).mono ?_
            rintro e w5 ⟨rfl, hb5⟩
            have hX5 := hX.below hb5
            have hS7 := hS6.below hb5
            have hB5 := hBw.trans (hb5.mono hBw.size)
            clear hX hS6 hBw hb5
            go_wp2_with fail
            refine (place_any gx T _ _ hX5).mono ?_
            rintro e w6 ⟨rfl, rfl⟩
            go_wp2_with fail
            refine (count_any g _ _ hS7).mono ?_
            rintro e w7 ⟨rfl, rfl⟩
            go_wp2_with fail
            refine (short_any gx T _ _ hX5 (by omega)).mono ?_
            rw [hdec]
            rintro e w8 ⟨rfl, nn, rfl⟩
            clear hX5 hS7 hdec
            go_wp2
            go_ret
            exact ⟨rfl, below_drewN hB5 nn⟩
end Go.Proofs.Ytbkaeibjhnndfaa
