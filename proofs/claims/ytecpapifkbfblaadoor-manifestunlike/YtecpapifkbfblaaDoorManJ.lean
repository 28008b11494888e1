/- Contract: the law's awake of layer 19. -/
import Derived.Test.YtecpapifkbfblaaDoorManI
namespace Go.Proofs.YtecpapifkbfblaaDoor
open Go.RowKit
set_option linter.unusedVariables false
set_option linter.unusedSimpArgs false

def c32 : List UInt8 := [48, 49, 50, 51, 52, 53, 54, 55, 56, 57, 48, 49, 50, 51, 52, 53, 54, 55, 56, 57, 48, 49, 50, 51, 52, 53, 54, 55, 56, 57, 48, 49]
def mAw : Mf := ⟨5, [], [], 1, [c32]⟩
theorem mAw_form : mAw.form = true := by decide +kernel
theorem mAw_fit : mAw.fit := ⟨by decide, by decide, by decide, by decide, by decide, by decide⟩
theorem mAw_enc : encM mAw = [115, 110, 97, 112, 5, 0, 0, 1, 1] ++ c32 := by
  have v0 : vb 0 = [0] := by unfold vb; rw [varN_small (by decide)]; rfl
  have v1 : vb 1 = [1] := by unfold vb; rw [varN_small (by decide)]; rfl
  have v5 : vb 5 = [5] := by unfold vb; rw [varN_small (by decide)]; rfl
  show [115, 110, 97, 112] ++ vb 5 ++ (vb 0 ++ []) ++ (vb 0 ++ []) ++ vb 1 ++ vb 1 ++ [c32].flatten = _
  rw [v0, v1, v5]
  rfl
theorem snap_bad : (mLeft [115, 110, 97, 112]).bad = true := by decide +kernel
theorem TX.one (w : World) (x : List UInt8) : TX (w.alloc (.cells #[.string (mkB x)] 9)) (.slice (some ⟨w.heap.size, 0, none⟩) 1 1) [x] := by
  refine ⟨_, 1, rfl, Nat.le_refl _, fun _ => ⟨w.heap.size, 0, rfl, by rw [World.size_alloc]; omega, fun i hi => ?_⟩⟩
  have : i = 0 := by simp at hi; exact hi
  subst this
  rw [cell_of_row _ _ _ _ _ _ (heap_alloc_new w _)]
  rfl
set_option maxRecDepth 100000 in
set_option maxHeartbeats 2000000 in
theorem awake19_any (w : World) (hL : Lay11 w) : Calls Tryd.prog 13 #[] w fun e w' => e = .returned (.bool true) ∧ Below w.heap.size w w' := by
  have hzm := Tryd.zeroMf
  obtain ⟨X, hX⟩ : ∃ X, X = w.alloc (.cells #[.string (mkB c32)] 9) := ⟨_, rfl⟩
  have hbX : Below w.heap.size w X := by rw [hX]; exact (Below.refl _ w).alloc (Nat.le_refl _) _
  have hTX : TX X (.slice (some ⟨w.heap.size, 0, none⟩) 1 1) [c32] := by rw [hX]; exact TX.one w c32
  have HEN := encode_good mAw _ X mAw_fit hTX (hL.below hbX) mAw_form
  have hcl : (⟨#[48, 49, 50, 51, 52, 53, 54, 55, 56, 57, 48, 49, 50, 51, 52, 53, 54, 55, 56, 57, 48, 49, 50, 51, 52, 53, 54, 55, 56, 57, 48, 49]⟩ : ByteArray) = mkB c32 := rfl
  rw [mAw_enc] at HEN
  have HE2 : Hid (mkB ([115, 110, 97, 112, 5, 0, 0, 1, 1] ++ c32) = ⟨#[115, 110, 97, 112, 5, 0, 0, 1, 1]⟩ ++ mkB c32) := by unfold Hid; rw [← mkB_app]; rfl
  have HD : Hid (∀ W, Calls Tryd.prog 27 #[.string ⟨#[115, 110, 97, 112]⟩] W fun e w' => e = .returned (.tuple #[.agg zM, .int .i64 3]) ∧ Below W.heap.size W w') := fun W => decode_text [115, 110, 97, 112] W (by decide) snap_bad
  unfold mfV mAw at HEN
  unfold zM at HD
  rw [show mkB [] = (⟨#[]⟩ : ByteArray) from rfl] at HEN
  rw [HE2.out] at HEN
  have hz : (mkB c32).size = 32 := rfl
  generalize hC : mkB c32 = C at *
  have HEH : Hid (Calls _ _ _ _ _) := HEN
  clear HEN HE2 hTX hL
  go_enter Tryd.func13, Tryd.ntmps13
  rw [hcl]
  go_wp2_with fail
  rw [← hX]
  clear hX
  refine (Hid.out HEH : Calls _ _ _ _ _).mono ?_
  rintro e w1 ⟨rfl, hb1⟩
  have hbw : Below w.heap.size w w1 := hbX.trans (hb1.mono hbX.size)
  clear hbX hb1 HEH
  go_wp2_with fail
  refine (HD.out _).mono ?_
  rintro e w2 ⟨rfl, hb2⟩
  have hbw2 : Below w.heap.size w w2 := hbw.trans (hb2.mono hbw.size)
  have HF : Hid (∀ o, Below w.heap.size w (w2.alloc o)) := fun o => hbw2.alloc hbw2.size o
  clear hbw hb2 HD hbw2
  go_wp2
  go_ret
  exact ⟨rfl, HF.out _⟩
end Go.Proofs.YtecpapifkbfblaaDoor
