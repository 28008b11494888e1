/- Contract of the document's Var. -/
import Derived.Test.YtpfjcdfhlcnlcaaU8
import Derived.Test.YtpfjcdfhlcnlcaaVarM
import Derived.Test.YtpfjcdfhlcnlcaaBsM
import Derived.Laws.OwnMore
namespace Go.Proofs.Ytpfjcdfhlcnlcaa
open Go.RowKit
set_option linter.unusedVariables false

/-- What the document's loop has gathered: the last group still bare. -/
def RPre (x0 y r : Nat) (pre : List Nat) : Prop := r < 128 ∧ pre ++ varN (y * 128 + r) = varN x0
theorem rpre_start (x : Nat) : RPre x (x / 128) (x % 128) [] := by
  refine ⟨by omega, ?_⟩
  rw [show x / 128 * 128 + x % 128 = x by omega]; rfl
theorem rpre_step {x0 y r : Nat} {pre : List Nat} (h : RPre x0 y r pre) (hy : 0 < y) : RPre x0 (y / 128) (y % 128) (pre ++ [r + 128]) := by
  obtain ⟨hr, h⟩ := h
  refine ⟨by omega, ?_⟩
  rw [← h, varN_big (x := y * 128 + r) (by omega), show (y * 128 + r) % 128 = r by omega, show (y * 128 + r) / 128 = y by omega, show y / 128 * 128 + y % 128 = y by omega]
  simp
theorem rpre_end {x0 r : Nat} {pre : List Nat} (h : RPre x0 0 r pre) : pre ++ [r] = varN x0 := by
  obtain ⟨hr, h⟩ := h
  rw [← h, varN_small (by omega)]; simp
theorem rpre_len {x0 y r : Nat} {pre : List Nat} (h : RPre x0 y r pre) (hx : x0 < 18446744073709551616) : pre.length ≤ 9 := by
  have a := varN_len64 hx
  have b := varN_pos (y * 128 + r)
  rw [← h.2] at a; simp at a; omega

set_option maxRecDepth 100000 in
set_option maxHeartbeats 400000 in
theorem rvar_any (x : Int) (w : World) (h0 : 0 ≤ x) (h1 : x < 18446744073709551616) :
    Calls Try.prog 27 #[.int .u64 x] w fun e w' => e = .returned (.string (bs (varN x.toNat))) ∧ Below w.heap.size w w' := by
  obtain ⟨x0, rfl⟩ := Int.eq_ofNat_of_zero_le h0
  rw [Int.toNat_natCast]
  have hx0 : x0 < 18446744073709551616 := by omega
  clear h0 h1
  obtain ⟨i0, hi, hz0, hz1, hz2⟩ := info_parts Try.infoU8
  go_enter Try.func27, Try.ntmps27
  go_wp2
  have hst : (w.alloc (.cells #[.int .u8 ((x0 : Int) % 128)] 5)).ownsRow w.heap.size 5 1 (.slice (some ⟨w.heap.size, 0, none⟩) 1 1) 1 (cs ([] ++ [x0 % 128])) := World.ownsRow_lit w #[.int .u8 ((x0 : Int) % 128)] 1 (Nat.le_refl _) (by decide) rfl
  have hbl : Below w.heap.size w (w.alloc (.cells #[.int .u8 ((x0 : Int) % 128)] 5)) := (Below.refl _ w).alloc (Nat.le_refl _) _
  go_loopw [3, 0] (fun v x wr => ∃ (y r : Nat) (pre : List Nat), y < 18446744073709551616 ∧ x = .int .u64 y ∧ RPre x0 y r pre ∧ wr.ownsRow w.heap.size 5 1 v (pre.length + 1) (cs (pre ++ [r])) ∧ Below w.heap.size w wr)
    (fun _ x _ => (intOf x).toNat)
  case atStart => exact ⟨x0 / 128, x0 % 128, [], by omega, by go_num, rpre_start x0, hst, hbl⟩
  case round =>
    clear hst hbl
    obtain ⟨y, r, pre, hy, rfl, hpre, hown, hbel⟩ := hrel
    have hlen := rpre_len hpre hx0
    obtain ⟨g, cap, rfl, hg, hgc, hgl⟩ := own_frm0 hown (by omega)
    by_cases hp : 0 < y
    · have hnext := rpre_step hpre hp
      have hr := hpre.1
      have hcell : wr.cell? ⟨g, pre.length, none⟩ = some (.int .u8 r) := by
        rw [hown.cellAt pre.length (by omega), cs_snoc, List.getElem?_append_right (by rw [cs_len]; exact Nat.le_refl _), cs_len]; simp
      have hfro := hown.frozenAt pre.length
      have hown2 : (wr.setCell ⟨g, pre.length, none⟩ (.int .u8 ((r : Int) + 128))).ownsRow w.heap.size 5 1 (.slice (some ⟨g, 0, none⟩) (pre.length + 1) cap) (pre.length + 1) (cs (pre ++ [r + 128])) := by
        have h := (hown.stored pre.length (.int .u8 ((r : Int) + 128))).1
        have e : (cs (pre ++ [r])).set pre.length (.int .u8 ((r : Int) + 128)) = cs (pre ++ [r + 128]) := by
          rw [cs_snoc, cs_snoc, List.set_append_right _ _ (by rw [cs_len]; exact Nat.le_refl _), cs_len, Nat.sub_self]; rfl
        rw [e] at h; exact h
      have hbel2 : Below w.heap.size w (wr.setCell ⟨g, pre.length, none⟩ (.int .u8 ((r : Int) + 128))) := hbel.setCell hg _
      have HN : Hid (RPre _ _ _ _) := hnext
      have hsz := hbel.size
      clear hnext hpre hown hbel
      go_wp2_with (at_builtin; refine wpList_append_own _ rfl _ _ 70 rfl w.heap.size 5 i0 (.int .u8 0) 1 1 Try.underlying70 hi hz0 hz1 hz2 rfl (by decide) _ _ _ rfl (hown2.alloc _) ⟨wr.heap.size, 0, none⟩ 1 1 [.int .u8 ((y : Int) % 128)] rfl rfl ?c1 ?c2 ?c3 ?c4 ?c5 ?_)
      case c1 =>
        have h := cell_one_new (wr.setCell ⟨g, pre.length, none⟩ (.int .u8 ((r : Int) + 128))) (.int .u8 ((y : Int) % 128)) 5
        simpa using h
      case c2 => intro u hu; simp at hu; subst hu; rfl
      case c3 => unfold maxLen; omega
      case c4 => omega
      case c5 => simp; omega
      intro v' w1 hown' hgrow _
      have hb' := bel_append hbel2 (by simpa using hsz) hown2 hgrow
      have ho' : w1.ownsRow w.heap.size 5 1 v' ((pre ++ [r + 128]).length + 1) (cs ((pre ++ [r + 128]) ++ [y % 128])) := by rw [cs_snoc (pre ++ [r + 128]), List.length_append]; exact hown'
      have HO : Hid (World.ownsRow _ _ _ _ _ _ _) := ho'
      clear hown' hgrow hown2 hbel2 ho'
      go_wp2
      go_roundw
      case rel => exact ⟨y / 128, y % 128, pre ++ [r + 128], by omega, by go_num, HN.out, HO.out, hb'⟩
      case measure => simp [intOf]; omega
    · have hy0 : y = 0 := by omega
      subst hy0
      have HL : Hid (_ = _) := rpre_end hpre
      have hcv := conv_bs (P := Try.prog) (dst := 9) Try.underlying70 Try.underlying5 Try.underlying9 hown
      rw [HL.out] at hcv
      clear hown hpre HL
      go_wp2
      go_ret
      exact ⟨rfl, hbel⟩
end Go.Proofs.Ytpfjcdfhlcnlcaa
