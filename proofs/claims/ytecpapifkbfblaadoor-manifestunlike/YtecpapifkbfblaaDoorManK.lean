/- What was written of a manifest is read; so unlike manifests have unlike bytes. Pure. -/
import Derived.Test.YtecpapifkbfblaaDoorManJ
namespace Go.Proofs.YtecpapifkbfblaaDoor
open Go.RowKit
set_option linter.unusedVariables false

theorem mNum_vb (x : Nat) (R : List UInt8) (h : x ≤ 1099511627776) : mNum ⟨vb x ++ R, false⟩ = (x, ⟨R, false⟩) := by
  have hu := uv_var x R (by omega)
  rw [← vb_var] at hu
  have hl : 1 ≤ (vb x).length := by unfold vb; rw [List.length_map]; exact varN_pos x
  unfold mNum
  simp only
  rw [hu]
  simp only
  rw [if_neg (by
    rintro (h1 | h1 | h1)
    · cases h1
    · omega
    · omega)]
  simp
theorem mTake_app (a R : List UInt8) : mTake a.length ⟨a ++ R, false⟩ = (a, ⟨R, false⟩) := by
  unfold mTake
  simp only
  rw [if_neg (by
    rintro (h | h)
    · cases h
    · rw [List.length_append] at h; omega)]
  simp
theorem mTxt_tx (a R : List UInt8) (h : a.length ≤ 1099511627776) : mTxt ⟨txB a ++ R, false⟩ = (a, ⟨R, false⟩) := by
  unfold mTxt txB
  rw [List.append_assoc, mNum_vb _ _ h]
  exact mTake_app a R
theorem ch32_flat : ∀ (l : List (List UInt8)) (n : Nat), (∀ x ∈ l, x.length = 32) → l.flatten.length ≤ n → ch32 n l.flatten = l
  | [], n, _, _ => by rw [List.flatten_nil, ch32_nil]
  | x :: r, 0, h, hn => by
    have := h x (by simp)
    rw [List.flatten_cons, List.length_append] at hn
    omega
  | x :: r, n + 1, h, hn => by
    have hx := h x (by simp)
    have hr := ch32_flat r n (fun y hy => h y (by simp [hy])) (by rw [List.flatten_cons, List.length_append] at hn; omega)
    have hne : (x :: r).flatten ≠ [] := by
      intro e
      have h0 := congrArg List.length e
      rw [List.flatten_cons, List.length_append, List.length_nil] at h0
      omega
    rw [ch32, if_neg hne, List.flatten_cons, List.take_append_of_le_length (by omega), List.take_of_length_le (by omega), List.drop_append_of_le_length (by omega), List.drop_of_length_le (by omega), List.nil_append, hr]
theorem mSums_enc (l : List (List UInt8)) (h : ∀ x ∈ l, x.length = 32) (hn : l.length ≤ 4194304) : mSums ⟨vb l.length ++ l.flatten, false⟩ = (l, ⟨[], false⟩) := by
  have hf := flat32 l h
  unfold mSums
  rw [mNum_vb _ _ (by omega)]
  simp only
  have ht := mTake_app l.flatten []
  rw [List.append_nil, hf, Nat.mul_comm] at ht
  rw [ht]
  simp only
  rw [ch32_flat l _ h (Nat.le_refl _)]
theorem mS0_enc (R : List UInt8) : mS0 ([115, 110, 97, 112] ++ R) = ⟨R, false⟩ := by
  have ht := mTake_app [115, 110, 97, 112] R
  unfold mS0
  rw [show (mTake 4 ⟨[115, 110, 97, 112] ++ R, false⟩) = _ from ht]
  rw [if_pos rfl]
/-- What was written is read, and nothing is left. -/
theorem told_enc (m : Mf) (h : m.good) : mTold (encM m) = m ∧ mLeft (encM m) = ⟨[], false⟩ := by
  obtain ⟨h1, h2, h3, h4, h5, h6, h7, h8, h9⟩ := h
  have e0 : encM m = [115, 110, 97, 112] ++ (vb m.t.toNat ++ (txB m.g ++ (txB m.p ++ (vb m.s.toNat ++ (vb m.ch.length ++ m.ch.flatten))))) := by
    unfold encM; simp only [List.append_assoc]
  have hs := mSums_enc m.ch h9 (by omega)
  have a0 := mS0_enc (vb m.t.toNat ++ (txB m.g ++ (txB m.p ++ (vb m.s.toNat ++ (vb m.ch.length ++ m.ch.flatten)))))
  have a1 := mNum_vb m.t.toNat (txB m.g ++ (txB m.p ++ (vb m.s.toNat ++ (vb m.ch.length ++ m.ch.flatten)))) (by omega)
  have a2 := mTxt_tx m.g (txB m.p ++ (vb m.s.toNat ++ (vb m.ch.length ++ m.ch.flatten))) (by omega)
  have a3 := mTxt_tx m.p (vb m.s.toNat ++ (vb m.ch.length ++ m.ch.flatten)) (by omega)
  have a4 := mNum_vb m.s.toNat (vb m.ch.length ++ m.ch.flatten) (by omega)
  rw [e0]
  unfold mTold mLeft
  simp only [a0, a1, a2, a3, a4, hs]
  refine ⟨?_, by simp⟩
  rw [Int.toNat_of_nonneg h1, Int.toNat_of_nonneg (by omega)]
theorem encM_inj {m k : Mf} (hm : m.good) (hk : k.good) (h : encM m = encM k) : m = k := by
  rw [← (told_enc m hm).1, h, (told_enc k hk).1]
end Go.Proofs.YtecpapifkbfblaaDoor
