/- Contract of path.Fold. -/
import Derived.Test.YtomghgbbojfpnabDoorPthC
import Derived.Test.YtomghgbbojfpnabDoorRunB
import Derived.Test.YtomghgbbojfpnabDoorPthZ
import Derived.Test.YtomghgbbojfpnabDoorBldR
namespace Go.Proofs.YtomghgbbojfpnabDoor
open Go.RowKit
set_option linter.unusedVariables false

theorem runeLen_small (r : Nat) (h : r < 2048) : Lib.runeLen (r : Int) = if r < 128 then 1 else 2 := by
  unfold Lib.runeLen
  split
  · omega
  · split
    · rw [if_pos (by omega)]
    · split
      · rw [if_neg (by omega)]
      · omega
theorem encode_small (r : Nat) (h : r < 2048) : Lib.encodeRune (r : Int) = enc2 r := by
  unfold Lib.encodeRune enc2
  by_cases h1 : r < 128
  · rw [Lib.encodeRuneZ_one (by omega) (by omega), if_pos h1]
    simp
  · rw [Lib.encodeRuneZ_two (by omega) (by omega), if_neg h1]
    simp only [List.map_cons, List.map_nil]
    have e1 : ((192 : Int) + (r : Int) / 64).toNat = 192 + r / 64 := by omega
    have e2 : ((128 : Int) + (r : Int) % 64).toNat = 128 + r % 64 := by omega
    rw [e1, e2]
theorem fold_at (s : ByteArray) (pos : Nat) (h : pos < s.size) : foldL (s.data.toList.drop pos) = fp (s.data.toList.drop pos) ++ foldL (s.data.toList.drop (pos + (Utf8.decode s pos).2)) := by
  rw [foldL_cons (left_ne s pos h), List.drop_drop, dec_at s pos h]
theorem mid_step (l : List UInt8) (t p w : Nat) (h : t ≤ p) : (l.drop t).take (p - t) ++ (l.drop p).take w = (l.drop t).take (p + w - t) := by
  have e : p + w - t = (p - t) + w := by omega
  rw [e, List.take_add, List.drop_drop]
  congr 3
  omega
set_option maxHeartbeats 2000000 in
set_option maxRecDepth 100000 in
theorem fold_any (s : ByteArray) (w : World) (hs : s.size ≤ 1000000) :
    Calls Tryd.prog 10 #[.string s] w fun e w' => e = .returned (.string ⟨(foldL s.data.toList).toArray⟩) ∧ Below w.heap.size w w' := by
  have hsl : s.data.toList.length = s.size := by simp
  go_enter Tryd.func10, Tryd.ntmps10
  go_wp2
  go_loopw [4] (fun v wr => ∃ (pos told : Nat) (acc : List UInt8), v = .int .i64 (told : Int) ∧ BF w.heap.size w.heap.size acc wr ∧ wr.heap[w.heap.size + 1]? = some (.stringIter s pos) ∧ Below w.heap.size w wr ∧ told ≤ pos ∧ pos ≤ s.size ∧ acc.length ≤ told ∧
      acc ++ (s.data.toList.drop told).take (pos - told) ++ foldL (s.data.toList.drop pos) = foldL s.data.toList) (fun _ wr => s.size - wr.iterPos (w.heap.size + 1))
  case atStart =>
    refine ⟨0, 0, [], rfl, (bnewF w).alloc _, ?_, ((Below.refl _ w).alloc (Nat.le_refl _) _).alloc (by simp) _, Nat.le_refl _, Nat.zero_le _, by simp, by simp⟩
    have := World.iter_heap (w.alloc (.cells #[.pointer none, .slice none 0 0] 45)) s 0
    simpa using this
  case round =>
    obtain ⟨pos, told, acc, rfl, hI, hit, hbw, htp, hps, hal, hk⟩ := hrel
    have hsz : w.heap.size + 1 < wr.heap.size := (Array.getElem?_eq_some_iff.1 hit).1
    by_cases hp : pos < s.size
    · have hnx : ∀ ty, (Instr.next (.pointer (some ⟨w.heap.size + 1, 0, none⟩)) true ty).run Tryd.prog wr = _ := fun ty => Lib.run_next_any_at wr (w.heap.size + 1) s pos ty hit hp
      have hw := dec_width s pos hp
      have HFA : Hid (_ = _) := fold_at s pos hp
      have hI2 : BF w.heap.size w.heap.size acc (wr.iterAt (w.heap.size + 1) s (pos + (Utf8.decode s pos).2)) := Lib.IsBuilderF.iterAt hI hit (pos + (Utf8.decode s pos).2)
      have hit2 := Lib.iterAt_heap wr (w.heap.size + 1) s pos (pos + (Utf8.decode s pos).2) hit
      have hbw2 := Lib.below_iterAt hbw (k := w.heap.size + 1) (by omega) s (pos + (Utf8.decode s pos).2)
      have hsz2 : w.heap.size ≤ (wr.iterAt (w.heap.size + 1) s (pos + (Utf8.decode s pos).2)).heap.size := by rw [Lib.iterAt_size]; omega
      have hr1 := Lib.rune_le s pos
      have HR : Hid ((rn (s.data.toList.drop pos)) = Utf8.decode s pos) := (dec_at s pos hp).symm
      have HK : Hid (acc ++ (s.data.toList.drop told).take (pos - told) ++ foldL (s.data.toList.drop pos) = foldL s.data.toList) := hk
      have HW : Hid ((Utf8.decode s pos).1 < 2048 → (Utf8.decode s pos).2 = if (Utf8.decode s pos).1 < 128 then 1 else 2) := by
        have := width_small (s.data.toList.drop pos) (left_ne s pos hp)
        rw [HR.out] at this
        exact this
      have HFP : Hid (fp (s.data.toList.drop pos) = if smol (Utf8.decode s pos).1 = (Utf8.decode s pos).1 then (s.data.toList.drop pos).take (Utf8.decode s pos).2 else enc2 (smol (Utf8.decode s pos).1)) := by
        unfold Hid fp
        rw [HR.out]
      clear hk hI
      generalize (Utf8.decode s pos).1 = R at *
      generalize (Utf8.decode s pos).2 = Wd at *
      clear HR
      by_cases hsm : smol R = R
      · have HK2 : Hid (acc ++ (s.data.toList.drop told).take (pos + Wd - told) ++ foldL (s.data.toList.drop (pos + Wd)) = foldL s.data.toList) := by
          unfold Hid
          rw [← HK.out, HFA.out, HFP.out, if_pos hsm, ← mid_step _ _ _ _ htp]
          simp
        clear HK HFA HFP HW
        have hno : ((smol R : Int) == (R : Int)) = true := by rw [hsm]; simp
        have hno2 : ((smol R : Int) != (R : Int)) = false := by rw [hsm]; simp
        have HS : Hid (smol R = R) := hsm
        clear hsm
        go_wp2_with fail
        refine (small_any R _ hr1).mono ?_
        rintro e w1 ⟨rfl, rfl⟩
        go_wp2
        go_roundw
        case rel => exact ⟨pos + Wd, told, acc, rfl, hI2, hit2, hbw2, by omega, hw.2, hal, HK2.out⟩
        case measure =>
          simp only [World.iterPos, hit2, hit]
          omega
      · have hrg := smol_range R hsm
        have hR : R < 2048 := by omega
        have HL : Hid (Lib.runeLen (R : Int) = (Wd : Int)) := by unfold Hid; rw [runeLen_small R hR, HW.out hR]; split <;> rfl
        have HEN : Hid (Lib.encodeRune ((smol R : Nat) : Int) = enc2 (smol R)) := encode_small _ (by omega)
        have hel : (enc2 (smol R)).length = Wd := by
          rw [HW.out hR]
          unfold enc2
          split <;> split <;> simp <;> omega
        have hxs : (s.extract told pos).data.toList = (s.data.toList.drop told).take (pos - told) := by rw [ByteArray.data_extract, Array.toList_extract]
        have hxl : (s.extract told pos).size = pos - told := by rw [ByteArray.size_extract]; omega
        have HK2 : Hid (acc ++ (s.extract told pos).data.toList ++ enc2 (smol R) ++ foldL (s.data.toList.drop (pos + Wd)) = foldL s.data.toList) := by
          unfold Hid
          rw [← HK.out, HFA.out, HFP.out, if_neg hsm, hxs]
          simp
        clear HK HFA HFP HW
        have hno : ((smol R : Int) == (R : Int)) = false := by simp; omega
        have hno2 : ((smol R : Int) != (R : Int)) = true := by simp; omega
        have hne : ¬ (smol R : Int) = (R : Int) := by omega
        have hsr : smol R < 2048 := by omega
        clear hrg
        have htp' : (told : Int) ≤ (pos : Int) := by omega
        have hps' : (pos : Int) ≤ (s.size : Int) := by omega
        go_wp2_with fail
        refine (small_any R _ hr1).mono ?_
        rintro e w1 ⟨rfl, rfl⟩
        generalize hQ : smol R = Q at *
        clear hsm hQ
        have HI2 : Hid (BF w.heap.size w.heap.size acc (wr.iterAt (w.heap.size + 1) s (pos + Wd))) := hI2
        clear hI2
        go_wp2_with fail
        refine (bwriteF w.heap.size w.heap.size acc (s.extract told pos) _ HI2.out (by rw [hxl]; omega) hsz2).mono ?_
        rintro e w2 ⟨⟨r2, rfl⟩, h2, b2, k2⟩
        have hit3 := k2.iter hit2 (by omega)
        have hsz3 : w.heap.size ≤ w2.heap.size := Nat.le_trans hsz2 b2.size
        have HB2 : Hid (Below w.heap.size w w2) := hbw2.trans b2
        have HH2 : Hid (BF w.heap.size w.heap.size (acc ++ (s.extract told pos).data.toList) w2) := h2
        clear k2 b2 h2 HI2
        go_wp2_with fail
        refine (bruneF w.heap.size w.heap.size _ (Q : Int) (by omega) (by omega) _ HH2.out (by rw [List.length_append, hxs, List.length_take, List.length_drop]; omega) hsz3).mono ?_
        rintro e w3 ⟨⟨r3, rfl⟩, h3, b3, k3⟩
        have hit4 := k3.iter hit3 (by omega)
        have HB3 : Hid (Below w.heap.size w w3) := HB2.out.trans b3
        have HH3 : Hid (BF w.heap.size w.heap.size (acc ++ (s.extract told pos).data.toList ++ Lib.encodeRune (Q : Int)) w3) := h3
        clear k3 b3 h3 HH2 HB2
        go_wp2_with fail
        refine (Tryd.utf8_RuneLen (R : Int) _).mono ?_
        rintro e w4 ⟨rfl, rfl⟩
        rw [HL.out]
        go_wp2
        go_roundw
        case rel =>
          refine ⟨pos + Wd, pos + Wd, acc ++ (s.extract told pos).data.toList ++ enc2 Q, by go_num, by rw [← HEN.out]; exact HH3.out, hit4, HB3.out, Nat.le_refl _, hw.2, ?_, ?_⟩
          · rw [List.length_append, List.length_append, hxs, List.length_take, List.length_drop, hel]; omega
          · rw [Nat.sub_self, List.take_zero, List.append_nil]; exact HK2.out
        case measure =>
          simp only [World.iterPos, hit4, hit]
          omega
    · have hnx : ∀ ty, (Instr.next (.pointer (some ⟨w.heap.size + 1, 0, none⟩)) true ty).run Tryd.prog wr = _ := fun ty => Lib.run_next_end_at wr (w.heap.size + 1) s pos ty hit hp
      have hxs : (s.extract told s.size).data.toList = (s.data.toList.drop told).take (pos - told) := by
        rw [ByteArray.data_extract, Array.toList_extract]
        rw [show pos = s.size by omega]
      have hxl : (s.extract told s.size).size = s.size - told := by rw [ByteArray.size_extract]; omega
      have HK2 : Hid (acc ++ (s.extract told s.size).data.toList = foldL s.data.toList) := by
        unfold Hid
        rw [← hk, left_end s pos hp, foldL_nil, hxs, List.append_nil]
      clear hk hxs
      have ht9 : (told : Int) ≤ (s.size : Int) := by omega
      go_wp2_with fail
      refine (bwriteF w.heap.size w.heap.size acc (s.extract told s.size) _ hI (by rw [hxl]; omega) (by omega)).mono ?_
      rintro e w2 ⟨⟨r2, rfl⟩, h2, b2, k2⟩
      have hsz3 : w.heap.size ≤ w2.heap.size := Nat.le_trans (by omega) b2.size
      have HB2 : Hid (Below w.heap.size w w2) := hbw.trans b2
      have HH2 : Hid (BF w.heap.size w.heap.size (foldL s.data.toList) w2) := by rw [← HK2.out]; exact h2
      clear k2 b2 h2 hI
      go_wp2_with fail
      refine (bstringF w.heap.size w.heap.size _ _ HH2.out hsz3).mono ?_
      rintro e w3 ⟨rfl, b3⟩
      go_wp2
      go_ret
      exact ⟨rfl, HB2.out.trans b3⟩
end Go.Proofs.YtomghgbbojfpnabDoor
