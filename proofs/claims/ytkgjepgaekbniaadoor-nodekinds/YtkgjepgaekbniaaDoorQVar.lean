/- Contract of bits.Var: a number in groups of seven bits. -/
import Derived.Test.YtkgjepgaekbniaaDoorQStrR
import Derived.Test.YtkgjepgaekbniaaDoorQVarM
namespace Go.Proofs.YtkgjepgaekbniaaDoor
open Go.RowKit
set_option linter.unusedVariables false

set_option maxRecDepth 100000 in
set_option maxHeartbeats 400000 in
theorem var_any (x : Int) (w : World) (h0 : 0 ≤ x) (h1 : x < 18446744073709551616) :
    Calls Tryd.prog 31 #[.int .u64 x] w fun e w' => e = .returned (.string (bs (varN x.toNat))) ∧ Below w.heap.size w w' := by
  obtain ⟨x0, rfl⟩ := Int.eq_ofNat_of_zero_le h0
  rw [Int.toNat_natCast]
  have hx0 : x0 < 18446744073709551616 := by omega
  clear h0 h1
  obtain ⟨i0, hi, hz0, hz1, hz2⟩ := info_parts Tryd.infoU8
  go_enter Tryd.func31, Tryd.ntmps31
  go_wp2
  go_loopw [3, 0] (fun v x wr => ∃ (y : Nat) (pre : List Nat), y < 18446744073709551616 ∧ x = .int .u64 y ∧ VarPre x0 y pre ∧ wr.ownsRow w.heap.size 5 1 v pre.length (cs pre) ∧ Below w.heap.size w wr)
    (fun _ x _ => (intOf x).toNat)
  case atStart => exact ⟨x0, [], hx0, rfl, varPre_start x0, World.ownsRow_nil _ _ _ _, Below.refl _ _⟩
  case round =>
    obtain ⟨y, pre, hy, rfl, hpre, hown, hbel⟩ := hrel
    have hlen := varPre_len hpre hx0
    by_cases h128 : 128 ≤ y
    · have ho := or128 y
      have hnext := varPre_step hpre h128
      have HN : Hid (VarPre _ _ _) := hnext
      clear hnext hpre
      go_wp2_with (at_builtin; refine wpList_append_own _ rfl _ _ 56 rfl w.heap.size 5 i0 (.int .u8 0) 1 1 Tryd.underlying56 hi hz0 hz1 hz2 rfl (by decide) _ _ _ rfl (hown.alloc _) ⟨wr.heap.size, 0, none⟩ 1 1 [.int .u8 ((y % 128 + 128 : Nat) : Int)] rfl rfl (cell_one_new _ _ _) ?c2 ?c3 ?c4 ?c5 ?_)
      case c2 => intro u hu; simp at hu; subst hu; rfl
      case c3 => unfold maxLen; omega
      case c4 => omega
      case c5 => have := hbel.size; simp; omega
      intro v' w1 hown' hgrow _
      have hb' := bel_append hbel (below_size hbel (Nat.le_refl _)) hown hgrow
      have ho' : Hid (w1.ownsRow w.heap.size 5 1 v' (pre ++ [y % 128 + 128]).length (cs (pre ++ [y % 128 + 128]))) := by rw [cs_snoc, List.length_append]; exact hown'
      clear hown' hgrow hown hbel
      go_wp2
      go_roundw
      case rel => exact ⟨y / 128, _, by omega, by go_num, HN.out, ho'.out, hb'⟩
      case measure => simp [intOf]; omega
    · have hlast := varPre_end hpre (by omega)
      have HL : Hid (_ = _) := hlast
      clear hlast hpre
      go_wp2_with (at_builtin; refine wpList_append_own _ rfl _ _ 56 rfl w.heap.size 5 i0 (.int .u8 0) 1 1 Tryd.underlying56 hi hz0 hz1 hz2 rfl (by decide) _ _ _ rfl (hown.alloc _) ⟨wr.heap.size, 0, none⟩ 1 1 [.int .u8 (y : Int)] rfl rfl (cell_one_new _ _ _) ?d2 ?d3 ?d4 ?d5 ?_)
      case d2 => intro u hu; simp at hu; subst hu; rfl
      case d3 => unfold maxLen; omega
      case d4 => omega
      case d5 => have := hbel.size; simp; omega
      intro v' w1 hown' hgrow _
      have hb' := bel_append hbel (below_size hbel (Nat.le_refl _)) hown hgrow
      have hcv := conv_bs (P := Tryd.prog) (dst := 9) (l := pre ++ [y]) Tryd.underlying56 Tryd.underlying5 Tryd.underlying9 (by rw [cs_snoc]; exact hown')
      rw [HL.out] at hcv
      clear hown' hgrow hown hbel
      go_wp2
      go_ret
      refine ⟨?_, hb'⟩
      rfl
end Go.Proofs.YtkgjepgaekbniaaDoor
