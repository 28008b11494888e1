/- Contract of the document's Bits: a text's bits with what stands behind them. -/
import Derived.Test.YtlnagnkiadlfpaaDoorRows
import Derived.Test.YtlnagnkiadlfpaaDoorBase
import Derived.Test.YtlnagnkiadlfpaaDoorBitsM
import Derived.Test.YtlnagnkiadlfpaaDoorBsM
namespace Go.Proofs.YtlnagnkiadlfpaaDoor
open Go.RowKit
set_option linter.unusedVariables false

theorem Tryd.infoBool : (Tryd.prog.info? 4).map (fun i => (i.zero, i.size, i.bytes)) = some (some (.bool false), 1, 1) := by kernel_rfl

/-- How long a slice is. -/
def lenOf : Value → Nat | .slice _ n _ => n | _ => 0
theorem own_shape {w : World} {base : Nat} {e : TypeId} {sz n : Nat} {v : Value} {xs : List Value} (h : w.ownsRow base e sz v n xs) : ∃ a cap, v = .slice a n cap := by
  rcases h.2 with ⟨rfl, rfl⟩ | ⟨g, cap, cur, rfl, _⟩
  · exact ⟨none, 0, rfl⟩
  · exact ⟨_, cap, rfl⟩
theorem shr_bit8 (b j : Nat) : (((b : Int) / 2 ^ j).tmod 2 == 1) = b.testBit j := by
  rw [Int.tmod_eq_emod_of_nonneg (by apply Int.ediv_nonneg; omega; exact Int.le_of_lt (Int.pow_pos (by decide)))]
  have e : (b : Int) / 2 ^ j = ((b / 2 ^ j : Nat) : Int) := by simp
  rw [e, int_bit, half_bit]

set_option maxRecDepth 100000 in
set_option maxHeartbeats 2000000 in
theorem bits_any (s : ByteArray) (w : World) (hs : s.size ≤ 1000) :
    Calls Tryd.prog 14 #[.string s] w fun e w' => ∃ v, e = .returned v ∧ w'.ownsRow w.heap.size 4 1 v (8 * (s.data.toList ++ padL s.size).length) (cb (bytesBits (s.data.toList ++ padL s.size))) ∧ Below w.heap.size w w' := by
  obtain ⟨i0, hi, hz0, hz1, hz2⟩ := info_parts Tryd.infoBool
  go_enter Tryd.func14, Tryd.ntmps14
  go_wp2
  go_loopw [3, 4] (fun v i wr => ∃ k : Nat, k ≤ s.size ∧ i = .int .i64 (k : Int) ∧ wr.ownsRow w.heap.size 4 1 v (8 * k) (cb (bytesBits (s.data.toList.take k))) ∧ Below w.heap.size w wr) (fun _ i _ => s.size - (intOf i).toNat)
  case atStart => exact ⟨0, by omega, rfl, World.ownsRow_made _ _ _ (Nat.le_refl _) (by decide) rfl, (Below.refl _ w).alloc (Nat.le_refl _) _⟩
  case round =>
    obtain ⟨k, hk, rfl, hown, hbel⟩ := hrel
    by_cases hlt : k < s.size
    · have hkl : (k : Int) < (s.size : Int) := by omega
      have HT : Hid (bytesBits (s.data.toList.take (k + 1)) = bytesBits (s.data.toList.take k) ++ byteK s[k].toNat 8) := by unfold Hid; rw [take_snoc s k hlt, bytesBits_snoc]
      have hb256 : s[k].toNat < 256 := s[k].toNat_lt
      generalize hbk : s[k].toNat = b at *
      generalize bytesBits (s.data.toList.take k) = L at *
      go_wp2
      go_loopw [3, 5] (fun v i wr => ∃ m : Nat, m ≤ 8 ∧ i = .int .i64 (7 - (m : Int)) ∧ wr.ownsRow w.heap.size 4 1 v (8 * k + m) (cb (L ++ byteK b m)) ∧ Below w.heap.size w wr) (fun _ i _ => (intOf i + 1).toNat)
      case atStart => exact ⟨0, by omega, rfl, by simpa [byteK] using hown, hbel⟩
      case round =>
        clear hown hbel
        obtain ⟨m, hm, rfl, hown, hbel⟩ := hrel
        by_cases hm8 : m < 8
        · have hi0 : (0 : Int) ≤ 7 - (m : Int) := by omega
          have hi1 : (7 - (m : Int)).toNat = 7 - m := by omega
          have hi7 : ¬ (7 - (m : Int)) < 0 := by omega
          have HS : Hid (_ = _) := byteK_succ b m
          have HV : Hid (_ = _) := shr_bit8 b (7 - m)
          go_wp2_with (at_builtin; refine wpList_append_own _ rfl _ _ 35 rfl w.heap.size 4 i0 (.bool false) 1 1 Tryd.underlying35 hi hz0 hz1 hz2 rfl (by decide) _ _ _ rfl (hown.alloc _) ⟨wr.heap.size, 0, none⟩ 1 1 [.bool (((b : Int) / 2 ^ (7 - m)).tmod 2 == 1)] rfl rfl (cell_one_new _ _ _) ?c2 ?c3 ?c4 ?c5 ?_)
          case c2 => first | rfl | (intro u hu; simp at hu; subst hu; rfl)
          case c3 => unfold maxLen; omega
          case c4 => omega
          case c5 => have := hbel.size; simp; omega
          intro v' w1 hown' hgrow _
          have hb' := bel_append hbel (below_size hbel (Nat.le_refl _)) hown hgrow
          have ho' : w1.ownsRow w.heap.size 4 1 v' (8 * k + (m + 1)) (cb (L ++ byteK b (m + 1))) := by rw [HS.out, ← List.append_assoc, cb_snoc, ← HV.out]; exact hown'
          clear hown' hgrow hown hbel
          go_wp2
          go_roundw
          case rel => exact ⟨m + 1, by omega, congrArg _ (by omega), ho', hb'⟩
          case measure => simp [intOf]; omega
        · have hm' : m = 8 := by omega
          subst hm'
          rw [← HT.out] at hown
          go_wp2
          go_roundw
          case rel => exact ⟨k + 1, by omega, by go_num, hown, hbel⟩
          case measure => simp [intOf]; omega
    · have hke : k = s.size := by omega
      subst hke
      have eT : s.data.toList.take s.size = s.data.toList := by rw [← size_toList s, List.take_length]
      rw [eT] at hown
      have HAll : Hid (bytesBits s.data.toList ++ [true] ++ List.replicate (nz s.size) false ++ longK (s.size * 8) 64 = bytesBits (s.data.toList ++ padL s.size)) := bits_all s.data.toList
      have HLen : Hid (8 * (s.data.toList ++ padL s.size).length = 8 * s.size + 1 + nz s.size + 64) := by
        unfold Hid nz; rw [List.length_append, padL_len, size_toList]; omega
      clear eT
      generalize bytesBits s.data.toList = L at *
      obtain ⟨a3, c3, rfl⟩ := own_shape hown
      have hnz := nz_le s.size
      go_wp2_with (at_builtin; refine wpList_append_own _ rfl _ _ 35 rfl w.heap.size 4 i0 (.bool false) 1 1 Tryd.underlying35 hi hz0 hz1 hz2 rfl (by decide) _ _ _ rfl (hown.alloc _) ⟨wr.heap.size, 0, none⟩ 1 1 [.bool (true)] rfl rfl (cell_one_new _ _ _) ?c2 ?c3 ?c4 ?c5 ?_)
      case c2 => first | rfl | (intro u hu; simp at hu; subst hu; rfl)
      case c3 => unfold maxLen; omega
      case c4 => omega
      case c5 => have := hbel.size; simp; omega
      intro v' w1 hown' hgrow _
      have hb' := bel_append hbel (below_size hbel (Nat.le_refl _)) hown hgrow
      have ho' : w1.ownsRow w.heap.size 4 1 v' (8 * s.size + 1 + 0) (cb (L ++ [true] ++ List.replicate 0 false)) := by rw [List.replicate_zero, List.append_nil, cb_snoc]; exact hown'
      clear hown' hgrow hown hbel
      go_wp2
      go_loopw [3] (fun v wr => ∃ z : Nat, z ≤ nz s.size ∧ wr.ownsRow w.heap.size 4 1 v (8 * s.size + 1 + z) (cb (L ++ [true] ++ List.replicate z false)) ∧ Below w.heap.size w wr) (fun v _ => nz s.size + 8 * s.size + 1 - lenOf v)
      case atStart => exact ⟨0, by omega, ho', hb'⟩
      case round =>
        clear ho' hb'
        obtain ⟨z, hz, hown, hbel⟩ := hrel
        obtain ⟨a4, c4, rfl⟩ := own_shape hown
        by_cases hlz : z < nz s.size
        · have hne := nz_not s.size z hlz
          have hni : ¬ ((8 * s.size + 1 + z : Nat) : Int) % 512 = 448 := by omega
          have hni2 : ((8 * s.size + 1 + z : Nat) : Int).tmod 512 = ((8 * s.size + 1 + z : Nat) : Int) % 512 := Int.tmod_eq_emod_of_nonneg (by omega)
          generalize hq : 8 * s.size + 1 + z = q at *
          go_wp2_with (at_builtin; refine wpList_append_own _ rfl _ _ 35 rfl w.heap.size 4 i0 (.bool false) 1 1 Tryd.underlying35 hi hz0 hz1 hz2 rfl (by decide) _ _ _ rfl (hown.alloc _) ⟨wr.heap.size, 0, none⟩ 1 1 [.bool (false)] rfl rfl (cell_one_new _ _ _) ?c2 ?c3 ?c4 ?c5 ?_)
          case c2 => first | rfl | (intro u hu; simp at hu; subst hu; rfl)
          case c3 => unfold maxLen; omega
          case c4 => omega
          case c5 => have := hbel.size; simp; omega
          intro v' w1 hown' hgrow _
          have hb' := bel_append hbel (below_size hbel (Nat.le_refl _)) hown hgrow
          have ho' : w1.ownsRow w.heap.size 4 1 v' (8 * s.size + 1 + (z + 1)) (cb (L ++ [true] ++ List.replicate (z + 1) false)) := by
            rw [List.replicate_succ', ← List.append_assoc, cb_snoc, show 8 * s.size + 1 + (z + 1) = q + 1 by omega]; simpa [List.append_assoc] using hown'
          have hle : lenOf v' = q + 1 := by obtain ⟨a, c, rfl⟩ := own_shape hown'; rfl
          clear hown' hgrow hown hbel
          go_wp2
          go_roundw
          case rel => exact ⟨z + 1, by omega, ho', hb'⟩
          case measure => rw [hle]; simp [lenOf]; omega
        · have hze : z = nz s.size := by omega
          subst hze
          have hee := nz_end s.size
          have hni : ((8 * s.size + 1 + nz s.size : Nat) : Int) % 512 = 448 := by omega
          have hni2 : ((8 * s.size + 1 + nz s.size : Nat) : Int).tmod 512 = ((8 * s.size + 1 + nz s.size : Nat) : Int) % 512 := Int.tmod_eq_emod_of_nonneg (by omega)
          generalize hq : 8 * s.size + 1 + nz s.size = q at *
          go_wp2
          generalize hL2 : L ++ [true] ++ List.replicate (nz s.size) false = L2 at *
          have HQ : Hid (8 * s.size + 1 + nz s.size = q) := hq
          clear hL2
          have hq2 : q ≤ 9000 := by omega
          go_loopw [3, 7] (fun v i wr => ∃ m : Nat, m ≤ 64 ∧ i = .int .i64 (63 - (m : Int)) ∧ wr.ownsRow w.heap.size 4 1 v (q + m) (cb (L2 ++ longK (s.size * 8) m)) ∧ Below w.heap.size w wr) (fun _ i _ => (intOf i + 1).toNat)
          case atStart => exact ⟨0, by omega, rfl, by simpa [longK] using hown, hbel⟩
          case round =>
            clear hown hbel
            obtain ⟨m, hm, rfl, hown, hbel⟩ := hrel
            by_cases hm64 : m < 64
            · have hi0 : (0 : Int) ≤ 63 - (m : Int) := by omega
              have hi1 : (63 - (m : Int)).toNat = 63 - m := by omega
              have HS : Hid (_ = _) := longK_succ (s.size * 8) m
              have HV : Hid ((((8 * (s.size : Int)) / 2 ^ (63 - m)).tmod 2 == 1) = (s.size * 8).testBit (63 - m)) := by
                unfold Hid; rw [show (8 * (s.size : Int)) = ((s.size * 8 : Nat) : Int) by omega]; exact shr_bit8 _ _
              go_wp2_with (at_builtin; refine wpList_append_own _ rfl _ _ 35 rfl w.heap.size 4 i0 (.bool false) 1 1 Tryd.underlying35 hi hz0 hz1 hz2 rfl (by decide) _ _ _ rfl (hown.alloc _) ⟨wr.heap.size, 0, none⟩ 1 1 [.bool (((8 * (s.size : Int)) / 2 ^ (63 - m)).tmod 2 == 1)] rfl rfl (cell_one_new _ _ _) ?c2 ?c3 ?c4 ?c5 ?_)
              case c2 => first | rfl | (intro u hu; simp at hu; subst hu; rfl)
              case c3 => unfold maxLen; omega
              case c4 => omega
              case c5 => have := hbel.size; simp; omega
              intro v' w1 hown' hgrow _
              have hb' := bel_append hbel (below_size hbel (Nat.le_refl _)) hown hgrow
              have ho' : w1.ownsRow w.heap.size 4 1 v' (q + (m + 1)) (cb (L2 ++ longK (s.size * 8) (m + 1))) := by rw [HS.out, ← List.append_assoc, cb_snoc, ← HV.out]; exact hown'
              clear hown' hgrow hown hbel
              go_wp2
              go_roundw
              case rel => exact ⟨m + 1, by omega, congrArg _ (by omega), ho', hb'⟩
              case measure => simp [intOf]; omega
            · have hm' : m = 64 := by omega
              subst hm'
              rw [HAll.out] at hown
              go_wp2
              go_ret
              exact ⟨_, rfl, by rw [HLen.out]; exact hown, hbel⟩
end Go.Proofs.YtlnagnkiadlfpaaDoor
