/- huff.bestLengths of no weights. -/
import Derived.Test.YtclmjopppaknjaaHLenM
import Derived.Test.YtclmjopppaknjaaHBest
import Derived.Test.YtclmjopppaknjaaHChk
import Derived.Test.YtclmjopppaknjaaGrow
namespace Go.Proofs.Ytclmjopppaknjaa
open Go.RowKit
set_option linter.unusedVariables false
set_option linter.unusedSimpArgs false
theorem made_fz (n : Nat) : (madeCells (Value.int IntKind.i64 0).cells (n * 1)).toList = fz (fun _ => 0) n := by
  rw [Nat.mul_one]
  show (madeCells #[.int .i64 0] n).toList = _
  rw [toList_madeCells_one]
  unfold fz
  rw [List.map_const', List.length_range]; rfl
theorem make_ints (n : Nat) (w : World) (hn : n ≤ 320) : ∃ w1, (Instr.makeSlice 22 (.int .i64 (n : Int)) (.int .i64 (n : Int))).run Try.prog w = .ok (.slice (some ⟨w.heap.size, 0, none⟩) n n) w1 ∧ w1.ownsRow w.heap.size 3 1 (.slice (some ⟨w.heap.size, 0, none⟩) n n) n (fz (fun _ => 0) n) ∧ Below w.heap.size w w1 := by
  obtain ⟨i0, hi, hz0, hz1, hz2⟩ := info_parts Try.infoI
  obtain ⟨w1, hmk, hown, hgr⟩ := run_makeSlice_full (P := Try.prog) (w := w) w.heap.size 22 3 i0 (.int .i64 0) 1 Try.underlying22 hi hz0 hz1 .i64 .i64 n (by omega) (by rw [hz2]; omega) (by unfold maxLen; omega) (Nat.le_refl _)
  rw [made_fz] at hown
  exact ⟨w1, hmk, hown, (Below.refl _ w).grown hgr (Nat.le_refl _) (fun k hk => by cases hk)⟩
set_option maxRecDepth 100000 in
set_option maxHeartbeats 2000000 in
theorem rows_nil (v : Value) (n : Nat) (w : World) (hV : NR w v []) (hn : n ≤ 15) :
    Calls Try.prog 51 #[v, .int .i64 (n : Int)] w fun e w' => ∃ a cap, e = .returned (.slice a n cap) ∧ Below w.heap.size w w' := by
  obtain ⟨i0, hi, hz0, hz1, hz2⟩ := info_parts Try.infoRw
  have HNV : Hid (∀ W, Below w.heap.size w W → NR W v []) := fun W hb => hV.below hb
  obtain ⟨av, cv, rfl, _⟩ := hV
  go_enter Try.func51, Try.ntmps51
  go_wp2
  go_loopw [5, 6, 8] (fun r x i wr => ∃ (k : Nat) (vs : List Value), k ≤ n ∧ vs.length = k ∧ i = .int .i64 (k : Int) ∧ wr.ownsRow w.heap.size 123 2 x 0 (itC []) ∧ wr.ownsRow w.heap.size 121 1 r k vs ∧ Below w.heap.size w wr) (fun _ _ i _ => n - (intOf i).toNat)
  case atStart => exact ⟨0, [], Nat.zero_le _, rfl, rfl, World.ownsRow_nil _ _ _ _, World.ownsRow_nil _ _ _ _, Below.refl _ _⟩
  case round =>
    obtain ⟨k, vs, hk, hvs, rfl, hX, hR, hB⟩ := hrel
    have hsz := hB.size
    by_cases hlt : k < n
    · have hki : (k : Int) < (n : Int) := by omega
      have HPA : Hid (Calls _ _ _ _ _) := pairs_any _ [] wr (PR.own (l := []) hX) (by simp) (by simp)
      obtain ⟨ax, cx, rfl⟩ := own_sliceH hX
      go_wp2_with fail
      refine (Hid.out HPA : Calls _ _ _ _ _).mono ?_
      rintro e w1 ⟨v1, rfl, hO1, hb1⟩
      have hB1 : Below w.heap.size w w1 := hB.trans (hb1.mono hsz)
      have HMA : Hid (Calls _ _ _ _ _) := merge_any _ _ [] [] w1 (HNV.out w1 hB1) (NR.own (l := []) hO1) (by simp)
      obtain ⟨a1, c1, rfl⟩ := own_sliceH hO1
      clear HPA
      go_wp2_with fail
      refine (Hid.out HMA : Calls _ _ _ _ _).mono ?_
      rintro e w2 ⟨v2, rfl, hO2, hb2⟩
      rw [show mrg [] [] = [] by rw [mrg]] at hO2
      have hO3 : w2.ownsRow w.heap.size 123 2 v2 0 (itC []) := own_baseH hO2 hB1.size
      have HB2 : Hid (Below w.heap.size w w2) := hB1.trans (hb2.mono hB1.size)
      have HR2 : Hid (w2.ownsRow w.heap.size 121 1 _ k vs) := own_belowH (own_belowH hR hb1) hb2
      obtain ⟨a2, c2, rfl⟩ := own_sliceH hO3
      have HO3 : Hid (w2.ownsRow w.heap.size 123 2 (.slice a2 0 c2) 0 (itC [])) := hO3
      have hsz2 := HB2.out.size
      clear HMA hO1 hO2 hb1 hb2 hB1 hO3 hX hR hB
      go_wp2_with (at_builtin; refine wpList_append_own _ rfl _ _ 119 rfl w.heap.size 121 i0 (.slice none 0 0) 1 24 Try.underlying119 hi hz0 hz1 hz2 rfl (by decide) _ _ _ rfl (HR2.out.alloc _) ⟨w2.heap.size, 0, none⟩ 1 1 [.slice a2 0 c2] rfl rfl (cell_one_new _ _ _) ?d2 ?d3 ?d4 ?d5 ?_)
      case d2 => first | rfl | (intro y hy; simp at hy; subst hy; rfl)
      case d3 => unfold maxLen; omega
      case d4 => omega
      case d5 => first | omega | (rw [World.size_alloc]; omega)
      intro v9 w9 hown hg9 _
      have HR9 : Hid (w9.ownsRow w.heap.size 121 1 v9 (k + 1) (vs ++ [.slice a2 0 c2])) := hown
      have HX9 : Hid (w9.ownsRow w.heap.size 123 2 (.slice a2 0 c2) 0 (itC [])) := own_keepH (HO3.out.alloc _) (HR2.out.alloc _) (by decide) hg9
      have HB9 : Hid (Below w.heap.size w w9) := (HB2.out.alloc hsz2 _).grown hg9 (by rw [World.size_alloc]; omega) (fun q hq => (HR2.out.lt q hq).1)
      clear hown hg9 HR2 HO3 HB2
      go_wp2
      go_roundw
      case rel => exact ⟨k + 1, _, by omega, by simp; omega, by go_num, HX9.out, HR9.out, HB9.out⟩
      case measure => simp [intOf]; omega
    · obtain rfl : k = n := by omega
      obtain ⟨ar, cr, rfl⟩ := own_sliceH hR
      clear hX hR
      go_wp2
      go_ret
      exact ⟨_, _, rfl, hB⟩
set_option maxRecDepth 100000 in
set_option maxHeartbeats 2000000 in
theorem best_nil (v : Value) (most : Nat) (w : World) (hV : NR w v []) (hm1 : 1 ≤ most) (hm : most ≤ 15) :
    Calls Try.prog 31 #[v, .int .i64 (most : Int)] w fun e w' => ∃ g, e = .returned (.slice (some ⟨g, 0, none⟩) 0 0) ∧ Below w.heap.size w w' := by
  obtain ⟨w1, hmk, hown, hb1⟩ := make_ints 0 w (by omega)
  have HRA : Hid (Calls _ _ _ _ _) := rows_nil v most w1 (hV.below hb1) hm
  obtain ⟨av, cv, rfl, _⟩ := hV
  rw [List.length_nil] at HRA ⊢
  have hmk0 : (Instr.makeSlice 22 (.int .i64 0) (.int .i64 0)).run Try.prog w = .ok (.slice (some ⟨w.heap.size, 0, none⟩) 0 0) w1 := hmk
  go_enter Try.func31, Try.ntmps31
  go_wp2_with fail
  refine (Hid.out HRA : Calls _ _ _ _ _).mono ?_
  rintro e w2 ⟨ar, cr, rfl, hb2⟩
  have hbF := hb1.trans (hb2.mono hb1.size)
  have hIi : (0 : Int) ≤ (most : Int) - 1 := by omega
  clear HRA hmk hmk0 hown hb1 hb2
  go_wp2
  go_loopw [7, 8] (fun q i W => q = .int .i64 (-2) ∧ i = .int .i64 ((most : Int) - 1) ∧ W = w2) (fun _ i _ => 0)
  case atStart => exact ⟨rfl, rfl, rfl⟩
  case round =>
    obtain ⟨rfl, rfl, rfl⟩ := hrel
    go_wp2
    go_ret
    exact ⟨_, rfl, hbF⟩
end Go.Proofs.Ytclmjopppaknjaa
