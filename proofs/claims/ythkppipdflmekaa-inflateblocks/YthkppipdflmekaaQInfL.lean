/- Contracts of slices.Grow of nothing, slices.Concat of four rows, inflate.Lengths and fixedCodes. -/
import Derived.Test.YthkppipdflmekaaQInfQ
import Derived.Lib.AppendZeros
namespace Go.Proofs.Ythkppipdflmekaa
open Go.RowKit
set_option linter.unusedVariables false

set_option maxRecDepth 100000 in
set_option maxHeartbeats 2000000 in
theorem grow_nil (n : Nat) (w : World) (h1 : 1 ≤ n) (hn : n ≤ 1000) :
    Calls Try.prog 67 #[.slice none 0 0, .int .i64 (n : Int)] w fun e w' => ∃ v, e = .returned v ∧ w'.ownsRow w.heap.size 3 1 v 0 [] ∧ Below w.heap.size w w' := by
  obtain ⟨i0, hi, hz0, hz1, hz2⟩ := info_parts Try.infoIq
  have happ := Lib.run_append_nil_zeros (P := Try.prog) w 63 3 63 3 i0 (.int .i64 0) .i64 .i64 Try.underlying63 Try.underlying3 hi hz0 n (by omega) (by omega) (by omega) (by rw [hz2]; omega)
  generalize hcap : grownCap w n 0 3 = cap2 at happ
  have hcapge : n ≤ cap2 := by rw [← hcap]; exact grownCap_ge w _ 0 3
  have hcaple : cap2 ≤ maxLen := by rw [← hcap]; exact grownCap_le_maxLen w _ 0 3 (by unfold maxLen; omega)
  generalize hZ : (Builtin.zeroCells (Value.int .i64 0).cells n ++ Builtin.zeroCells (Value.int .i64 0).cells (cap2 - n)) = Z at happ
  have hZs : Z.size = cap2 := by rw [← hZ]; simp [size_zeroCells, Value.cells]; omega
  have HO : Hid ((w.drew.alloc (.cells Z 3)).ownsRow w.heap.size 3 1 (.slice (some ⟨w.heap.size, 0, none⟩) 0 cap2) 0 []) := World.ownsRow_made w.drew Z cap2 (Nat.le_refl _) hcaple (by omega)
  have HB : Hid (Below w.heap.size w (w.drew.alloc (.cells Z 3))) := (Below.refl _ w).drew.alloc (Nat.le_refl _) _
  have hn0 : ¬ (n : Int) < 0 := by omega
  have hn1 : (0 : Int) < (n : Int) := by omega
  have hc0 : (0 : Int) ≤ (cap2 : Int) := by omega
  unfold maxLen at hcaple
  clear hcap hZ
  go_enter Try.func67, Try.ntmps67
  go_wp2_with (at_builtin; refine Lib.wpList_append_run _ rfl _ _ _ _ rfl _ _ rfl rfl _ _ happ ?_)
  go_ret
  exact ⟨_, rfl, HO.out, HB.out⟩
/-- The first k rows, one behind the other. -/
def catN (Ls : Nat → List Nat) : Nat → List Nat
  | 0 => []
  | k + 1 => catN Ls k ++ Ls k
theorem catN_len (Ls : Nat → List Nat) (h : ∀ i, i < 4 → (Ls i).length ≤ 200) : ∀ k, k ≤ 4 → (catN Ls k).length ≤ 200 * k
  | 0, _ => Nat.le_refl _
  | k + 1, hk => by
    have := catN_len Ls h k (by omega)
    have := h k (by omega)
    rw [catN, List.length_append]; omega
set_option maxRecDepth 100000 in
set_option maxHeartbeats 2000000 in
theorem concat4 (gp B : Nat) (P : Nat → Value) (Ls : Nat → List Nat) (w : World) (hg : gp < w.heap.size) (hc : ∀ i, i < 4 → w.cell? ⟨gp, i, none⟩ = some (P i)) (hO : ∀ i, i < 4 → w.ownsRow B 3 1 (P i) (Ls i).length (nc (Ls i))) (hl : ∀ i, i < 4 → 1 ≤ (Ls i).length ∧ (Ls i).length ≤ 200) :
    Calls Try.prog 60 #[.slice (some ⟨gp, 0, none⟩) 4 4] w fun e w' => ∃ v, e = .returned v ∧ w'.ownsRow w.heap.size 3 1 v (catN Ls 4).length (nc (catN Ls 4)) ∧ Below w.heap.size w w' := by
  obtain ⟨i0, hi, hz0, hz1, hz2⟩ := info_parts Try.infoIq
  have HC : Hid (∀ i, i < 4 → w.cell? ⟨gp, i, none⟩ = some (P i)) := hc
  have HO : Hid (∀ i, i < 4 → w.ownsRow B 3 1 (P i) (Ls i).length (nc (Ls i))) := hO
  have HL : Hid (∀ i, i < 4 → 1 ≤ (Ls i).length ∧ (Ls i).length ≤ 200) := hl
  have HCL : Hid (∀ k, k ≤ 4 → (catN Ls k).length ≤ 200 * k) := catN_len Ls (fun i hi => (hl i hi).2)
  clear hc hO hl
  go_enter Try.func60, Try.ntmps60
  go_wp2
  go_loop [3, 11] (fun sz i => ∃ k : Nat, k ≤ 4 ∧ i = .int .i64 (k : Int) ∧ sz = .int .i64 ((catN Ls k).length : Int)) (fun _ i => 4 - (intOf i).toNat)
  case atStart => exact ⟨0, by omega, rfl, rfl⟩
  case round =>
    obtain ⟨k, hk, rfl, rfl⟩ := hrel
    have hcl := HCL.out k hk
    by_cases hlt : k < 4
    · have ck := HC.out k hlt
      have hlk := HL.out k hlt
      obtain ⟨a, cap, hv⟩ := own_slice (HO.out k hlt)
      rw [hv] at ck
      have HS : Hid ((catN Ls (k + 1)).length = (catN Ls k).length + (Ls k).length) := by unfold Hid; rw [catN, List.length_append]
      have hki : (k : Int) < 4 := by omega
      have hki0 : (0 : Int) ≤ (k : Int) := by omega
      clear hv
      generalize (catN Ls k).length = X at *
      generalize (Ls k).length = Y at *
      go_wp2
      go_round
      case rel => exact ⟨k + 1, by omega, by go_num, by rw [HS.out]; go_num⟩
      case measure => simp [intOf]; omega
    · obtain rfl : k = 4 := by omega
      have h4 : 1 ≤ (catN Ls 4).length := by
        rw [catN, List.length_append]
        have := (HL.out 3 (by decide)).1
        omega
      have HG : Hid (Calls _ _ _ _ _) := grow_nil (catN Ls 4).length w h4 (by omega)
      go_wp2_with fail
      refine (Hid.out HG : Calls _ _ _ _ _).mono ?_
      rintro e w1 ⟨v1, rfl, hO1, hB1⟩
      have HO1 : Hid (w1.ownsRow w.heap.size 3 1 v1 0 []) := hO1
      have HB1 : Hid (Below w.heap.size w w1) := hB1
      clear HG hO1 hB1
      go_wp2
      go_loopw [6, 27] (fun v i wr => ∃ k : Nat, k ≤ 4 ∧ i = .int .i64 (k : Int) ∧ wr.ownsRow w.heap.size 3 1 v (catN Ls k).length (nc (catN Ls k)) ∧ Below w.heap.size w wr) (fun _ i _ => 4 - (intOf i).toNat)
      case atStart => exact ⟨0, by omega, rfl, HO1.out, HB1.out⟩
      case round =>
        clear HO1 HB1
        obtain ⟨k, hk, rfl, hO, hB⟩ := hrel
        have hck := HCL.out k hk
        have hsz := hB.size
        by_cases hlt : k < 4
        · have ck := HC.out k hlt
          rw [← hB.cell (p := ⟨gp, k, none⟩) hg] at ck
          have hlk := HL.out k hlt
          have hOk := HO.out k hlt
          obtain ⟨g, cap, hv, _, _, hgl⟩ := own_frm0 hOk (by omega)
          rw [hv] at ck hOk
          have HN : Hid (∀ j u, (nc (Ls k))[j]? = some u → wr.cell? ((⟨g, 0, none⟩ : Addr).add j) = some u) := fun j u hu => by
            have hadd : (⟨g, 0, none⟩ : Addr).add j = ⟨g, j, none⟩ := by unfold Addr.add; split <;> simp_all
            have hj : j < (Ls k).length := by have := (List.getElem?_eq_some_iff.1 hu).1; rwa [nc_len] at this
            rw [hadd, hB.cell (p := ⟨g, j, none⟩) hgl, hOk.cellAt j (by omega)]; exact hu
          have HONE : Hid (∀ u ∈ nc (Ls k), u.oneCell' = true) := nc_one _
          have HLN : Hid ((nc (Ls k)).length = (Ls k).length * 1) := by unfold Hid; rw [nc_len, Nat.mul_one]
          have hki : (k : Int) < 4 := by omega
          have hki0 : (0 : Int) ≤ (k : Int) := by omega
          clear hv
          go_wp2_with (at_builtin; refine wpList_append_own _ rfl _ _ 63 rfl w.heap.size 3 i0 (.int .i64 0) 1 8 Try.underlying63 hi hz0 hz1 hz2 rfl (by decide) _ _ _ rfl hO ⟨g, 0, none⟩ (Ls k).length cap (nc (Ls k)) rfl HLN.out HN.out HONE.out (by unfold maxLen; omega) (by omega) hsz ?_)
          intro v8 w8 hown8 hg8 _
          have HO8 : Hid (w8.ownsRow w.heap.size 3 1 v8 (catN Ls (k + 1)).length (nc (catN Ls (k + 1)))) := by unfold Hid; rw [catN, nc_app, List.length_append]; exact hown8
          have HB8 : Hid (Below w.heap.size w w8) := hB.grown hg8 hsz (fun q hq => (hO.lt q hq).1)
          clear hown8 hg8 hO hB hOk HN ck
          go_wp2
          go_roundw
          case rel => exact ⟨k + 1, by omega, by go_num, HO8.out, HB8.out⟩
          case measure => simp [intOf]; omega
        · obtain rfl : k = 4 := by omega
          go_wp2
          go_ret
          exact ⟨_, rfl, hO, hB⟩
theorem own_IO {w : World} {B n : Nat} {v : Value} {ns : List Nat} (h : w.ownsRow B 3 1 v n (nc ns)) (h0 : 0 < n) : IQ w v (zz ns) := by
  have hl := h.1
  rw [nc_len, Nat.mul_one] at hl
  subst hl
  obtain ⟨g, cap, rfl, _, _, hg⟩ := own_frm0 h h0
  refine ⟨g, 0, cap, by rw [zz_len], hg, fun i hi => ?_⟩
  rw [zz_len] at hi
  rw [Nat.zero_add, h.cellAt i (by omega), nc_at ns i hi, zz_at]
def fixP : Nat → List Nat
  | 0 => List.replicate 144 8
  | 1 => List.replicate 112 9
  | 2 => List.replicate 24 7
  | _ => List.replicate 8 8
theorem fixP_cat : catN fixP 4 = fixL := by unfold fixL; simp only [catN, fixP, List.nil_append]
set_option maxRecDepth 100000 in
set_option maxHeartbeats 2000000 in
theorem lengths_any (w : World) : Calls Try.prog 54 #[] w fun e w' => ∃ v u, e = .returned (.tuple #[v, u]) ∧ w'.ownsRow w.heap.size 3 1 v 288 (nc fixL) ∧ w'.ownsRow w.heap.size 3 1 u 32 (nc fixD) ∧ Below w.heap.size w w' := by
  have H1 : Hid (∀ W, Calls Try.prog 61 #[.int .i64 8, .int .i64 144] W fun e w' => ∃ g, e = .returned (.slice (some ⟨g, 0, none⟩) 144 144) ∧ w'.ownsRow W.heap.size 3 1 (.slice (some ⟨g, 0, none⟩) 144 144) 144 (nc (List.replicate 144 8)) ∧ Below W.heap.size W w') := fun W => many_any 8 144 W (by decide) (by decide)
  have H2 : Hid (∀ W, Calls Try.prog 61 #[.int .i64 9, .int .i64 112] W fun e w' => ∃ g, e = .returned (.slice (some ⟨g, 0, none⟩) 112 112) ∧ w'.ownsRow W.heap.size 3 1 (.slice (some ⟨g, 0, none⟩) 112 112) 112 (nc (List.replicate 112 9)) ∧ Below W.heap.size W w') := fun W => many_any 9 112 W (by decide) (by decide)
  have H3 : Hid (∀ W, Calls Try.prog 61 #[.int .i64 7, .int .i64 24] W fun e w' => ∃ g, e = .returned (.slice (some ⟨g, 0, none⟩) 24 24) ∧ w'.ownsRow W.heap.size 3 1 (.slice (some ⟨g, 0, none⟩) 24 24) 24 (nc (List.replicate 24 7)) ∧ Below W.heap.size W w') := fun W => many_any 7 24 W (by decide) (by decide)
  have H4 : Hid (∀ W, Calls Try.prog 61 #[.int .i64 8, .int .i64 8] W fun e w' => ∃ g, e = .returned (.slice (some ⟨g, 0, none⟩) 8 8) ∧ w'.ownsRow W.heap.size 3 1 (.slice (some ⟨g, 0, none⟩) 8 8) 8 (nc (List.replicate 8 8)) ∧ Below W.heap.size W w') := fun W => many_any 8 8 W (by decide) (by decide)
  have H5 : Hid (∀ W, Calls Try.prog 61 #[.int .i64 5, .int .i64 32] W fun e w' => ∃ g, e = .returned (.slice (some ⟨g, 0, none⟩) 32 32) ∧ w'.ownsRow W.heap.size 3 1 (.slice (some ⟨g, 0, none⟩) 32 32) 32 (nc (List.replicate 32 5)) ∧ Below W.heap.size W w') := fun W => many_any 5 32 W (by decide) (by decide)
  go_enter Try.func54, Try.ntmps54
  go_wp2_with fail
  refine (H1.out _).mono ?_
  rintro e w1 ⟨g1, rfl, o1, b1⟩
  go_wp2_with fail
  refine (H2.out _).mono ?_
  rintro e w2 ⟨g2, rfl, o2, b2⟩
  go_wp2_with fail
  refine (H3.out _).mono ?_
  rintro e w3 ⟨g3, rfl, o3, b3⟩
  go_wp2_with fail
  refine (H4.out _).mono ?_
  rintro e w4 ⟨g4, rfl, o4, b4⟩
  have hA : Below w4.heap.size w4 (w4.alloc (.cells #[.slice (some ⟨g1, 0, none⟩) 144 144, .slice (some ⟨g2, 0, none⟩) 112 112, .slice (some ⟨g3, 0, none⟩) 24 24, .slice (some ⟨g4, 0, none⟩) 8 8] 63)) := (Below.refl _ w4).alloc (Nat.le_refl _) _
  have bb2 : Below w.heap.size w w2 := b1.trans (b2.mono b1.size)
  have bb3 : Below w.heap.size w w3 := bb2.trans (b3.mono bb2.size)
  have bb4 : Below w.heap.size w w4 := bb3.trans (b4.mono bb3.size)
  have low : ∀ {W W' : World} {v : Value} {n : Nat} {xs : List Value}, W'.ownsRow W.heap.size 3 1 v n xs → w.heap.size ≤ W.heap.size → W'.ownsRow w.heap.size 3 1 v n xs := fun h hle => ⟨h.1, by
    rcases h.2 with h | ⟨g', cap, cur, h1, h2, h3⟩
    · exact .inl h
    · exact .inr ⟨g', cap, cur, h1, by omega, h3⟩⟩
  have q1 := (own_below (own_below (own_below (own_below o1 b2) b3) b4) hA)
  have q2 := low (own_below (own_below (own_below o2 b3) b4) hA) b1.size
  have q3 := low (own_below (own_below o3 b4) hA) bb2.size
  have q4 := low (own_below o4 hA) bb3.size
  have hcc := concat4 w4.heap.size w.heap.size (fun i => match i with | 0 => .slice (some ⟨g1, 0, none⟩) 144 144 | 1 => .slice (some ⟨g2, 0, none⟩) 112 112 | 2 => .slice (some ⟨g3, 0, none⟩) 24 24 | _ => .slice (some ⟨g4, 0, none⟩) 8 8) fixP (w4.alloc (.cells #[.slice (some ⟨g1, 0, none⟩) 144 144, .slice (some ⟨g2, 0, none⟩) 112 112, .slice (some ⟨g3, 0, none⟩) 24 24, .slice (some ⟨g4, 0, none⟩) 8 8] 63)) (by rw [World.size_alloc]; omega)
    (fun i hi => by rcases (show i = 0 ∨ i = 1 ∨ i = 2 ∨ i = 3 by omega) with rfl | rfl | rfl | rfl <;> (rw [cell_of_row _ _ _ _ _ _ (heap_alloc_new w4 _)]; rfl))
    (fun i hi => by
      rcases (show i = 0 ∨ i = 1 ∨ i = 2 ∨ i = 3 by omega) with rfl | rfl | rfl | rfl
      · exact q1
      · exact q2
      · exact q3
      · exact q4)
    (fun i hi => by rcases (show i = 0 ∨ i = 1 ∨ i = 2 ∨ i = 3 by omega) with rfl | rfl | rfl | rfl <;> (simp only [fixP, List.length_replicate]; decide))
  rw [fixP_cat] at hcc
  have HCC : Hid (Calls _ _ _ _ _) := hcc
  have HB4 : Hid (Below w.heap.size w (w4.alloc (.cells #[.slice (some ⟨g1, 0, none⟩) 144 144, .slice (some ⟨g2, 0, none⟩) 112 112, .slice (some ⟨g3, 0, none⟩) 24 24, .slice (some ⟨g4, 0, none⟩) 8 8] 63))) := bb4.alloc bb4.size _
  clear o1 o2 o3 o4 q1 q2 q3 q4 b1 b2 b3 b4 bb2 bb3 bb4 hA hcc low H1 H2 H3 H4
  go_wp2_with fail
  refine (Hid.out HCC : Calls _ _ _ _ _).mono ?_
  rintro e w5 ⟨v5, rfl, o5, b5⟩
  have HB5 : Hid (Below w.heap.size w w5) := HB4.out.trans (b5.mono HB4.out.size)
  have HO5 : Hid (w5.ownsRow w.heap.size 3 1 v5 288 (nc fixL)) := by
    refine ⟨by rw [nc_len]; rfl, ?_⟩
    rcases o5.2 with ⟨h, h2⟩ | ⟨g', cap, cur, h1, h2, h3⟩
    · exact absurd h2 (by decide)
    · have := HB4.out.size
      exact .inr ⟨g', cap, cur, h1, by omega, h3⟩
  clear HCC o5 b5 HB4
  go_wp2_with fail
  refine (H5.out _).mono ?_
  rintro e w6 ⟨g6, rfl, o6, b6⟩
  have HO6 : Hid (w6.ownsRow w.heap.size 3 1 v5 288 (nc fixL)) := own_below HO5.out b6
  have HO7 : Hid (w6.ownsRow w.heap.size 3 1 (.slice (some ⟨g6, 0, none⟩) 32 32) 32 (nc fixD)) := by
    refine ⟨o6.1, ?_⟩
    rcases o6.2 with ⟨h, _⟩ | ⟨g', cap, cur, h1, h2, h3⟩
    · cases h
    · have := HB5.out.size
      exact .inr ⟨g', cap, cur, h1, by omega, h3⟩
  have HB6 : Hid (Below w.heap.size w w6) := HB5.out.trans (b6.mono HB5.out.size)
  clear o6 b6 HO5 HB5 H5
  go_wp2
  go_ret2
  exact ⟨v5, _, rfl, HO6.out, HO7.out, HB6.out⟩
end Go.Proofs.Ythkppipdflmekaa
