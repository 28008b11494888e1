/- The walk of the law BitioTakes: it returns true at every input. -/
import Derived.Test.YtbkaeibjhnndfaaAwake3
import Derived.Test.YtbkaeibjhnndfaaActPut
import Derived.Test.YtbkaeibjhnndfaaRefP
import Derived.Deep.DeepCutAuto
namespace Go.Proofs.Ytbkaeibjhnndfaa
open Go.RowKit
set_option linter.unusedVariables false
theorem Try.zeroAct : (Try.prog.info? 31).map (fun i => (i.zero, i.size)) = some (some (.agg #[.int .i64 0, .int .i64 0, .int .u32 0, .string ⟨#[]⟩]), 4) := by kernel_rfl
theorem few_100 (s : ByteArray) (w : World) (hs : s.size ≤ 9223372036854775807) :
    Calls Try.prog 8 #[.string s, .int .i64 100] w fun e w' => e = .returned (.string (s.extract 0 100)) ∧ w' = w := few_any s 100 w (by decide) hs
theorem cut_in (S : ByteArray) (q m : Nat) (h : q < S.size) : S.extract q (q + min m (S.size - q)) = cutT S q m := by
  unfold cutT; congr 1 <;> omega
theorem cut_out (S : ByteArray) (q m : Nat) (h : ¬ q < S.size) : (⟨#[]⟩ : ByteArray) = cutT S q m := by
  apply ba_ext
  rw [cutT_data, List.drop_of_length_le (by rw [size_toList]; omega)]; simp
theorem takes_row (S : ByteArray) (p m : Nat) : takeN (fun i => sbit S.data.toList (p + i)) m = takeN (fun i => (rowOf S.data.toList).getD (p + i) false) m := takeN_congr m fun i _ => (rowOf_at _ _).symm
theorem turns_row (S : ByteArray) (p m : Nat) : turnN (fun i => sbit S.data.toList (p + i)) m = turnN (fun i => (rowOf S.data.toList).getD (p + i) false) m := turnN_congr m fun i _ => (rowOf_at _ _).symm
theorem short_at (g : Nat) (s : ByteArray) (p : Nat) (w : World) (hS : SrcAt w g s p) (hs : s.size ≤ 1000) :
    Calls Try.prog 19 #[.pointer (some ⟨g, 0, none⟩)] w fun e w' => e = .returned (.bool (decide (((8 * s.size : Nat) : Int) < (p : Int)))) ∧ ∃ n, w' = w.drewN n := by
  have e : decide (((8 * s.size : Nat) : Int) < (p : Int)) = decide (8 * s.size < p) := by apply decide_eq_decide.2; omega
  rw [e]; exact short_any g s p w hS (by omega)
set_option maxRecDepth 100000 in
set_option maxHeartbeats 4000000 in
theorem lawBitioTakes_walk (s : ByteArray) (a : Option Addr) (len cap : Nat) (A : Nat → ActD) (w : World) (hs : s.size ≤ 140737488351232) (hA : IsActs w a len cap A) :
    Calls Try.prog 3 #[.string s, .slice a len cap] w fun e w' => e = .returned (.bool true) ∧ Below w.heap.size w w' := by
  have hza := (zero_of_info Try.zeroAct).1
  have hlen := hA.len_le
  have HA : Hid (IsActs w a len cap A) := hA
  have f1 := few_size s 100
  clear hA
  obtain ⟨K, hK⟩ : ∃ K, K = min len 60 := ⟨_, rfl⟩
  have hK60 : K ≤ 60 := by omega
  have hKl : K ≤ len := by omega
  have HK : Hid (∀ k, k ≤ K → ¬ k < K → ¬ (k < len ∧ k < 60)) := fun k h1 h2 => by omega
  have HK2 : Hid (∀ k, k < K → (k < len ∧ k < 60)) := fun k h1 => by omega
  clear hK
  go_enter Try.func3, Try.ntmps3
  go_wp2_with fail
  refine (few_100 _ _ (by omega)).mono ?_
  rintro e w0 ⟨rfl, rfl⟩
  have hS1 : (s.extract 0 100).size ≤ 100 := by omega
  generalize s.extract 0 100 = S at *
  clear f1 hs
  go_wp2_with fail
  refine (srcOf_any S _).mono ?_
  rintro e w1 ⟨gx, rfl, hX1, hgx, hb1⟩
  go_wp2_with fail
  refine (row_any S _ (by omega)).mono ?_
  rintro e w2 ⟨v, rfl, hO2, hb2⟩
  have hgx1 := hX1.lt
  have hX2 := hX1.below hb2
  have hO2' : OB w2 (gx + 1) v (rowOf S.data.toList) := hO2.mono hgx1
  have hB2 : Below w0.heap.size w0 w2 := hb1.trans (hb2.mono hb1.size)
  clear hX1 hO2 hb1 hb2
  go_wp2_with fail
  refine (awake3_any _).mono ?_
  rintro e w3 ⟨rfl, hb3⟩
  have HX3 : Hid (SrcAt w3 gx S 0) := hX2.below hb3
  have hO3 : OB w3 (gx + 1) v (rowOf S.data.toList) := hO2'.below hb3
  have HB3 : Hid (Below w0.heap.size w0 w3) := hB2.trans (hb3.mono hB2.size)
  obtain ⟨gv, cv, rfl, hov⟩ := hO3
  have hRL : (rowOf S.data.toList).length = 8 * S.size := by rw [rowOf_len, size_toList]
  rw [hRL] at hov
  have HO3 : Hid (OB w3 (gx + 1) (.slice (some ⟨gv, 0, none⟩) (8 * S.size) cv) (rowOf S.data.toList)) := ⟨gv, cv, by rw [hRL], by rw [hRL]; exact hov⟩
  rw [hRL]
  have hvne : (Value.slice (some ⟨gv, 0, none⟩) (8 * S.size) cv).ownBlock ≠ some gx := by
    have := HO3.out.lt.1
    simp [Value.ownBlock]; omega
  have HRL : Hid ((rowOf S.data.toList).length ≤ 1000000) := by unfold Hid; omega
  clear hX2 hO2' hB2 hb3 hov hRL
  go_wp2
  go_loopw [7, 8] (fun p i wr => ∃ k q : Nat, k ≤ K ∧ i = .int .i64 (k : Int) ∧ p = .int .i64 (q : Int) ∧ q ≤ 600000 * k ∧ SrcAt wr gx S q ∧ OB wr (gx + 1) (.slice (some ⟨gv, 0, none⟩) (8 * S.size) cv) (rowOf S.data.toList) ∧ Below w0.heap.size w0 wr) (fun _ i _ => K - (intOf i).toNat)
  case atStart => exact ⟨0, 0, by omega, rfl, rfl, by omega, HX3.out, HO3.out, HB3.out⟩
  case round =>
    clear HX3 HO3 HB3
    obtain ⟨k, p, hk, rfl, rfl, hp, hX, hO, hB⟩ := hrel
    by_cases hlt : k < K
    · obtain ⟨hl1, hl2⟩ := HK2.out k hlt
      obtain ⟨b, o, rfl, hbl, hlc, hok, c0, c1, c2, c3⟩ := HA.out.at hB k hl1
      have hi0 : (0 : Int) ≤ (k : Int) := by omega
      have hi1 : (k : Int) < (len : Int) := by omega
      have hi2 : (k : Int) < 60 := by omega
      obtain ⟨q0, q1, q2, q3⟩ := hok
      generalize (A k).kind = dk at *
      generalize (A k).n = dn at *
      generalize (A k).x = dx at *
      generalize (A k).s = ds at *
      have n32 := near_le dn 32
      have n64 := near_le dn 65536
      have hgl : gx < wr.heap.size := hX.lt
      have hX4 : SrcAt (wr.alloc (.cells #[.int .i64 dk, .int .i64 dn, .int .u32 (dx : Int), .string ds] 31)) gx S p := hX.below ((Below.refl _ wr).alloc (Nat.le_refl _) _)
      have hO4 : OB (wr.alloc (.cells #[.int .i64 dk, .int .i64 dn, .int .u32 (dx : Int), .string ds] 31)) (gx + 1) (.slice (some ⟨gv, 0, none⟩) (8 * S.size) cv) (rowOf S.data.toList) := hO.below ((Below.refl _ wr).alloc (Nat.le_refl _) _)
      have hB4 : Below w0.heap.size w0 (wr.alloc (.cells #[.int .i64 dk, .int .i64 dn, .int .u32 (dx : Int), .string ds] 31)) := hB.alloc hB.size _
      have d0 : (wr.alloc (.cells #[.int .i64 dk, .int .i64 dn, .int .u32 (dx : Int), .string ds] 31)).cell? ⟨wr.heap.size, 0, none⟩ = some (.int .i64 dk) := by rw [cell_of_row _ _ _ _ _ _ (heap_alloc_new wr _)]; rfl
      have d1 : (wr.alloc (.cells #[.int .i64 dk, .int .i64 dn, .int .u32 (dx : Int), .string ds] 31)).cell? ⟨wr.heap.size, 1, none⟩ = some (.int .i64 dn) := by rw [cell_of_row _ _ _ _ _ _ (heap_alloc_new wr _)]; rfl
      have hgdg : wr.heap.size ≠ gx := by omega
      clear hX hO hB
      go_upto_region 11 with fail
      clear c0 c1 c2 c3
      generalize wr.alloc (.cells #[.int .i64 dk, .int .i64 dn, .int .u32 (dx : Int), .string ds] 31) = W at *
      generalize wr.heap.size = gd at *
      have hWI := within_any dn 32 W q1 (by decide)
      have hWJ : Hid (∀ W', Calls Try.prog 12 #[.int .i64 dn, .int .i64 65536] W' fun e w' => e = .returned (.int .i64 (near dn 65536 : Int)) ∧ w' = W') := fun W' => within_any dn 65536 W' q1 (by decide)
      have HFIN : Hid (∀ w5, W.grownBy w5 (some gx) → OB w5 (gx + 1) (.slice (some ⟨gv, 0, none⟩) (8 * S.size) cv) (rowOf S.data.toList) ∧ Below w0.heap.size w0 w5) := fun w5 h => ⟨hO4.kept h hvne, hB4.grown h hB4.size (fun z hz => by cases hz; exact hgx)⟩
      generalize hm32 : near dn 32 = m at *
      generalize hm64 : near dn 65536 = m2 at *
      go_wp2_with fail
      refine hWI.mono ?_
      rintro e w4 ⟨rfl, rfl⟩
      clear hWI
      by_cases k0 : dk = 0
      · subst k0
        have hT := take_any gx S p dn w4 hX4 (by omega) (by omega) q1
        rw [hm32, takes_row] at hT
        go_wp2_with fail
        refine hT.mono ?_
        rintro e w5 ⟨rfl, hX5, hG5⟩
        have e0 : w5.cell? ⟨gd, 0, none⟩ = some (.int .i64 0) := hG5.cell d0 (fun e => hgdg (Option.some.inj e))
        obtain ⟨hO9, hB9⟩ := HFIN.out _ hG5
        have hd9 := short_at gx S _ _ hX5 (by omega)
        have hpl := place_any gx S _ _ hX5
        have hPE : Hid (p + m ≤ 600000 * (k + 1)) := by unfold Hid; omega
        clear hO4 hB4 hG5

        have hN := number_low _ _ _ p m w5 hO9 HRL.out (by omega) n32
        clear hT d0 d1 hX4
        go_wp2_with fail
        refine hN.mono ?_
        rintro e w6 ⟨rfl, rfl⟩
        clear hN e0
        go_wp2_with fail
        refine hpl.mono ?_
        rintro e w10 ⟨rfl, rfl⟩
        go_wp2_with fail
        refine hd9.mono ?_
        rintro e w11 ⟨rfl, nn, rfl⟩
        have hX11 := hX5.drewN nn
        have hO11 := hO9.drewN nn
        have hB11 := below_drewN hB9 nn
        clear hX5 hO9 hB9 hpl hd9
        go_wp2
        go_roundw
        case rel => exact ⟨k + 1, p + m, by omega, by go_num, congrArg _ (by omega), hPE.out, hX11, hO11, hB11⟩
        case measure => simp [intOf]; omega
      by_cases k1 : dk = 1
      · subst k1
        have hT := turned_any gx S p dn w4 hX4 (by omega) (by omega) q1
        rw [hm32, turns_row] at hT
        go_wp2_with fail
        refine hT.mono ?_
        rintro e w5 ⟨rfl, hX5, hG5⟩
        have e0 : w5.cell? ⟨gd, 0, none⟩ = some (.int .i64 1) := hG5.cell d0 (fun e => hgdg (Option.some.inj e))
        obtain ⟨hO9, hB9⟩ := HFIN.out _ hG5
        have hd9 := short_at gx S _ _ hX5 (by omega)
        have hpl := place_any gx S _ _ hX5
        have hPE : Hid (p + m ≤ 600000 * (k + 1)) := by unfold Hid; omega
        clear hO4 hB4 hG5

        have hN := number_high _ _ _ p m w5 hO9 HRL.out (by omega) n32
        clear hT d0 d1 hX4
        go_wp2_with fail
        refine hN.mono ?_
        rintro e w6 ⟨rfl, rfl⟩
        clear hN e0
        go_wp2_with fail
        refine hpl.mono ?_
        rintro e w10 ⟨rfl, rfl⟩
        go_wp2_with fail
        refine hd9.mono ?_
        rintro e w11 ⟨rfl, nn, rfl⟩
        have hX11 := hX5.drewN nn
        have hO11 := hO9.drewN nn
        have hB11 := below_drewN hB9 nn
        clear hX5 hO9 hB9 hpl hd9
        go_wp2
        go_roundw
        case rel => exact ⟨k + 1, p + m, by omega, by go_num, congrArg _ (by omega), hPE.out, hX11, hO11, hB11⟩
        case measure => simp [intOf]; omega
      by_cases k2 : dk = 2
      · subst k2
        go_wp2_with fail
        refine (seven_any gx S p _ hX4 (by omega)).mono ?_
        rintro e w5 ⟨rfl, hX5, hG5⟩
        obtain ⟨hO9, hB9⟩ := HFIN.out _ hG5
        have hd9 := short_at gx S _ _ hX5 (by omega)
        have hpl := place_any gx S _ _ hX5
        have hPE : Hid ((p + 7) / 8 * 8 ≤ 600000 * (k + 1)) := by unfold Hid; omega
        clear hO4 hB4 hG5

        clear d0 d1 hX4
        go_wp2_with fail
        refine hpl.mono ?_
        rintro e w10 ⟨rfl, rfl⟩
        go_wp2_with fail
        refine hd9.mono ?_
        rintro e w11 ⟨rfl, nn, rfl⟩
        have hX11 := hX5.drewN nn
        have hO11 := hO9.drewN nn
        have hB11 := below_drewN hB9 nn
        clear hX5 hO9 hB9 hpl hd9
        go_wp2
        go_roundw
        case rel => exact ⟨k + 1, (p + 7) / 8 * 8, by omega, by go_num, congrArg _ (by omega), hPE.out, hX11, hO11, hB11⟩
        case measure => simp [intOf]; omega
      by_cases k3 : dk = 3
      · subst k3
        have hT := stext_any gx S p dn w4 hX4 (by omega) (by omega) q1
        rw [hm64] at hT
        obtain ⟨q, hq⟩ : ∃ q, q = (p + 7) / 8 := ⟨_, rfl⟩
        rw [← hq] at hT
        have hpq : ((p : Int) + 7) / 8 = (q : Int) := by omega
        have hqb : q ≤ 600000 * 100 := by omega
        have hPB : Hid (q * 8 + 8 * m2 ≤ 600000 * (k + 1)) := by unfold Hid; omega
        clear hq
        by_cases hqs : q < S.size
        · have HC : Hid (S.extract q ((q : Int) + min (m2 : Int) ((S.size : Int) - (q : Int))).toNat = cutT S q m2) := by
            unfold Hid; rw [← cut_in S q m2 hqs]; congr 1; omega
          have hqi : (q : Int) < (S.size : Int) := by omega
          rw [← HC.out] at hT
          go_wp2_with fail
          refine (hWJ.out _).mono ?_
          rintro e w4b ⟨rfl, rfl⟩
          go_wp2_with fail
          refine hT.mono ?_
          rintro e w5 ⟨rfl, hX5, hG5⟩

          obtain ⟨hO9, hB9⟩ := HFIN.out _ hG5
          have hd9 := short_at gx S _ _ hX5 (by omega)
          have hpl := place_any gx S _ _ hX5
          have hPE := hPB
          clear hO4 hB4 hG5

          clear d0 d1 hX4 hT

          go_wp2_with fail
          refine hpl.mono ?_
          rintro e w10 ⟨rfl, rfl⟩
          go_wp2_with fail
          refine hd9.mono ?_
          rintro e w11 ⟨rfl, nn, rfl⟩
          have hX11 := hX5.drewN nn
          have hO11 := hO9.drewN nn
          have hB11 := below_drewN hB9 nn
          clear hX5 hO9 hB9 hpl hd9
          go_wp2
          go_roundw
          case rel => exact ⟨k + 1, q * 8 + 8 * m2, by omega, by go_num, congrArg _ (by omega), hPE.out, hX11, hO11, hB11⟩
          case measure => simp [intOf]; omega
        · have HC : Hid ((⟨#[]⟩ : ByteArray) = cutT S q m2) := cut_out S q m2 hqs
          have hqi : ¬ (q : Int) < (S.size : Int) := by omega
          rw [← HC.out] at hT
          go_wp2_with fail
          refine (hWJ.out _).mono ?_
          rintro e w4b ⟨rfl, rfl⟩
          go_wp2_with fail
          refine hT.mono ?_
          rintro e w5 ⟨rfl, hX5, hG5⟩

          obtain ⟨hO9, hB9⟩ := HFIN.out _ hG5
          have hd9 := short_at gx S _ _ hX5 (by omega)
          have hpl := place_any gx S _ _ hX5
          have hPE := hPB
          clear hO4 hB4 hG5

          clear d0 d1 hX4 hT

          go_wp2_with fail
          refine hpl.mono ?_
          rintro e w10 ⟨rfl, rfl⟩
          go_wp2_with fail
          refine hd9.mono ?_
          rintro e w11 ⟨rfl, nn, rfl⟩
          have hX11 := hX5.drewN nn
          have hO11 := hO9.drewN nn
          have hB11 := below_drewN hB9 nn
          clear hX5 hO9 hB9 hpl hd9
          go_wp2
          go_roundw
          case rel => exact ⟨k + 1, q * 8 + 8 * m2, by omega, by go_num, congrArg _ (by omega), hPE.out, hX11, hO11, hB11⟩
          case measure => simp [intOf]; omega
      have z0 := kind_ne k0
      have z1 := kind_ne k1
      have z2 := kind_ne k2
      have z3 := kind_ne k3
      have hX5 := hX4
      have hG5 := grefl w4 (some gx)

      obtain ⟨hO9, hB9⟩ := HFIN.out _ hG5
      have hd9 := short_at gx S _ _ hX5 (by omega)
      have hpl := place_any gx S _ _ hX5
      have hPE : Hid (p ≤ 600000 * (k + 1)) := by unfold Hid; omega
      clear hO4 hB4 hG5

      clear hX4

      go_wp2_with fail
      refine hpl.mono ?_
      rintro e w10 ⟨rfl, rfl⟩
      go_wp2_with fail
      refine hd9.mono ?_
      rintro e w11 ⟨rfl, nn, rfl⟩
      have hX11 := hX5.drewN nn
      have hO11 := hO9.drewN nn
      have hB11 := below_drewN hB9 nn
      clear hX5 hO9 hB9 hpl hd9
      go_wp2
      go_roundw
      case rel => exact ⟨k + 1, p, by omega, by go_num, congrArg _ (by omega), hPE.out, hX11, hO11, hB11⟩
      case measure => simp [intOf]; omega
    · obtain rfl : k = K := by omega
      have hnot := HK.out k (Nat.le_refl _) hlt
      by_cases hkl : k < len
      all_goals
        try have hk60 : ¬ (k : Int) < 60 := fun h => hnot ⟨hkl, by omega⟩
        clear hnot
        go_wp2
        go_ret
        exact ⟨rfl, hB⟩
end Go.Proofs.Ytbkaeibjhnndfaa
