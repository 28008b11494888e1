/- Contracts of huff.fit and huff.checkLengths. -/
import Derived.Test.YthkppipdflmekaaQHuffM
namespace Go.Proofs.Ythkppipdflmekaa
open Go.RowKit
set_option linter.unusedVariables false

/-- Numbers as lengths. -/
def toN (zs : List Int) : List Nat := zs.map Int.toNat
theorem toN_len (zs : List Int) : (toN zs).length = zs.length := by simp [toN]
theorem toN_ln (zs : List Int) (i : Nat) (hi : i < zs.length) (h0 : 0 ≤ zs.getD i 0) : ((ln (toN zs) i : Nat) : Int) = zs.getD i 0 := by
  have e : ln (toN zs) i = (zs.getD i 0).toNat := by
    unfold ln toN
    rw [List.getD_eq_getElem?_getD, List.getD_eq_getElem?_getD, List.getElem?_map, List.getElem?_eq_getElem hi]; rfl
  rw [e]; omega
/-- All of 0 to 15? -/
def in15 (zs : List Int) : Prop := ∀ i, i < zs.length → 0 ≤ zs.getD i 0 ∧ zs.getD i 0 ≤ 15
theorem in15.all {zs : List Int} (h : in15 zs) : all15 (toN zs) := by
  intro n hn
  unfold toN at hn
  obtain ⟨z, hz, rfl⟩ := List.mem_map.1 hn
  obtain ⟨i, hi, rfl⟩ := List.getElem_of_mem hz
  have := h i hi
  rw [List.getD_eq_getElem?_getD, List.getElem?_eq_getElem hi] at this
  simp at this
  omega
theorem usedK_le (ns : List Nat) : ∀ k, usedK ns k ≤ k
  | 0 => Nat.le_refl _
  | k + 1 => by have := usedK_le ns k; rw [usedK]; split <;> omega
theorem allP_le (ns : List Nat) : ∀ k, allP ns k ≤ k * 16384
  | 0 => Nat.zero_le _
  | k + 1 => by
    have h := allP_le ns k
    unfold allP at h ⊢
    rw [partP, Nat.succ_mul]
    by_cases h1 : 0 < ln ns k ∧ (fun _ => true) k = true
    · rw [if_pos h1]
      have h14 : 2 ^ (15 - ln ns k) ≤ 16384 := Nat.pow_le_pow_right (n := 2) (i := 15 - ln ns k) (j := 14) (by decide) (by omega)
      exact Nat.add_le_add h h14
    · rw [if_neg h1]; exact Nat.le_trans h (Nat.le_add_right _ _)
theorem shr15 (n : Nat) (h : n ≤ 15) : (32768 : Int) / 2 ^ n = ((2 ^ (15 - n) : Nat) : Int) := by
  have e : (32768 : Nat) = 2 ^ (15 - n) * 2 ^ n := by rw [← Nat.pow_add, show 15 - n + n = 15 by omega]
  have e2 : (32768 : Nat) / 2 ^ n = 2 ^ (15 - n) := by rw [e, Nat.mul_div_cancel _ (Nat.two_pow_pos _)]
  have e3 : (32768 : Int) / 2 ^ n = ((32768 / 2 ^ n : Nat) : Int) := by simp
  rw [e3, e2]
set_option maxRecDepth 100000 in
set_option maxHeartbeats 1000000 in
theorem fit_anyO (v : Value) (zs : List Int) (w : World) (hR : IQ w v zs) (hl : zs.length ≤ 400) (h15 : in15 zs) :
    Calls Try.prog 76 #[v] w fun e w' => e = .returned (.bool (fitB (toN zs))) ∧ w' = w := by
  obtain ⟨g, o, cap, rfl, hg, hc⟩ := hR
  have HC : Hid (∀ i, i < zs.length → w.cell? ⟨g, o + i, none⟩ = some (.int .i64 (zs.getD i 0))) := hc
  have H15 : Hid (in15 zs) := h15
  clear hc h15
  have HU : Hid (∀ k, usedK (toN zs) k ≤ k) := usedK_le (toN zs)
  have HP : Hid (∀ k, allP (toN zs) k ≤ k * 16384) := allP_le (toN zs)
  have HF : Hid (fitB (toN zs) = if usedK (toN zs) zs.length = 0 then true else if usedK (toN zs) zs.length = 1 then allP (toN zs) zs.length == 16384 else allP (toN zs) zs.length == 32768) := by
    unfold Hid fitB; rw [toN_len]
  go_enter Try.func76, Try.ntmps76
  go_wp2
  go_loop [3, 4, 9] (fun u p i => ∃ k : Nat, k ≤ zs.length ∧ i = .int .i64 (k : Int) ∧ u = .int .i64 (usedK (toN zs) k : Int) ∧ p = .int .i64 (allP (toN zs) k : Int)) (fun _ _ i => zs.length - (intOf i).toNat)
  case atStart => exact ⟨0, by omega, rfl, rfl, rfl⟩
  case round =>
    obtain ⟨k, hk, rfl, rfl, rfl⟩ := hrel
    have hu := HU.out k
    have hp := HP.out k
    by_cases hlt : k < zs.length
    · have hck := HC.out k hlt
      obtain ⟨z0, z15⟩ := H15.out k hlt
      have hln := toN_ln zs k hlt z0
      have HUs : Hid (usedK (toN zs) (k + 1) = usedK (toN zs) k + if 0 < ln (toN zs) k then 1 else 0) := rfl
      have HPs : Hid (allP (toN zs) (k + 1) = allP (toN zs) k + if 0 < ln (toN zs) k ∧ (fun _ => true) k = true then 2 ^ (15 - ln (toN zs) k) else 0) := rfl
      generalize usedK (toN zs) k = U at *
      generalize allP (toN zs) k = P at *
      generalize ln (toN zs) k = n at *
      rw [← hln] at hck z0 z15
      clear hln
      have hki : (k : Int) < (zs.length : Int) := by omega
      have hki0 : (0 : Int) ≤ (k : Int) := by omega
      by_cases hn0 : 0 < n
      · have hs := shr15 n (by omega)
        have h14 : 2 ^ (15 - n) ≤ 16384 := Nat.pow_le_pow_right (n := 2) (i := 15 - n) (j := 14) (by decide) (by omega)
        have hni : (0 : Int) < (n : Int) := by omega
        generalize 2 ^ (15 - n) = Q at *
        go_wp2
        go_round
        case rel => exact ⟨k + 1, by omega, by go_num, by rw [HUs.out, if_pos hn0]; rfl, by rw [HPs.out, if_pos ⟨hn0, rfl⟩]; rfl⟩
        case measure => simp [intOf]; omega
      · have hni : ¬ (0 : Int) < (n : Int) := by omega
        go_wp2
        go_round
        case rel => exact ⟨k + 1, by omega, by go_num, by rw [HUs.out, if_neg hn0]; rfl, by rw [HPs.out, if_neg (fun h => hn0 h.1)]; rfl⟩
        case measure => simp [intOf]; omega
    · obtain rfl : k = zs.length := by omega
      generalize usedK (toN zs) zs.length = U at *
      generalize allP (toN zs) zs.length = P at *
      by_cases h0 : U = 0
      · subst h0
        go_wp2
        go_ret
        exact ⟨by rw [HF.out]; rfl, rfl⟩
      · have h0i : ((U : Int) == 0) = false := by simp; omega
        by_cases h1 : U = 1
        · subst h1
          go_wp2
          go_ret
          refine ⟨?_, rfl⟩
          rw [HF.out, if_neg h0]
          simp only [if_true]
          show Ending.returned (.bool ((P : Int) == 16384)) = _
          congr 2
          rw [Bool.eq_iff_iff]; simp; omega
        · have h1i : ((U : Int) == 1) = false := by simp; omega
          go_wp2
          go_ret
          refine ⟨?_, rfl⟩
          rw [HF.out, if_neg h0, if_neg h1]
          show Ending.returned (.bool ((P : Int) == 32768)) = _
          congr 2
          rw [Bool.eq_iff_iff]; simp; omega
instance (zs : List Int) : Decidable (in15 zs) := by unfold in15; infer_instance
/-- The error's number of lengths. -/
def errN (zs : List Int) : Nat := if 320 < zs.length then 2 else if in15 zs then (if fitB (toN zs) = true then 0 else 4) else 1
theorem errN_big {zs : List Int} (h : 320 < zs.length) : errN zs = 2 := by unfold errN; rw [if_pos h]
theorem errN_arg {zs : List Int} (h : ¬ 320 < zs.length) (h2 : ¬ in15 zs) : errN zs = 1 := by unfold errN; rw [if_neg h, if_neg h2]
theorem errN_form {zs : List Int} (h : ¬ 320 < zs.length) (h2 : in15 zs) (h3 : fitB (toN zs) = false) : errN zs = 4 := by unfold errN; rw [if_neg h, if_pos h2, if_neg (by rw [h3]; simp)]
theorem errN_ok {zs : List Int} (h : ¬ 320 < zs.length) (h2 : in15 zs) (h3 : fitB (toN zs) = true) : errN zs = 0 := by unfold errN; rw [if_neg h, if_pos h2, if_pos h3]
theorem errN_zero {zs : List Int} (h : errN zs = 0) : zs.length ≤ 320 ∧ in15 zs ∧ fitB (toN zs) = true := by
  unfold errN at h
  split at h
  · omega
  · rename_i h1
    split at h
    · rename_i h2
      split at h
      · rename_i h3; exact ⟨by omega, h2, h3⟩
      · omega
    · omega
/-- The first one that isn't of 0 to 15, or none. -/
theorem not15 {zs : List Int} (h : ¬ in15 zs) : ∃ k, k < zs.length ∧ (zs.getD k 0 < 0 ∨ 15 < zs.getD k 0) ∧ ∀ i, i < k → 0 ≤ zs.getD i 0 ∧ zs.getD i 0 ≤ 15 := by
  have key : ∀ n, n ≤ zs.length → (∀ i, i < n → 0 ≤ zs.getD i 0 ∧ zs.getD i 0 ≤ 15) ∨ ∃ k, k < n ∧ (zs.getD k 0 < 0 ∨ 15 < zs.getD k 0) ∧ ∀ i, i < k → 0 ≤ zs.getD i 0 ∧ zs.getD i 0 ≤ 15 := by
    intro n
    induction n with
    | zero => intro _; exact .inl fun i hi => by omega
    | succ n ih =>
      intro hn
      rcases ih (by omega) with h1 | ⟨k, hk, h2, h3⟩
      · by_cases h2 : 0 ≤ zs.getD n 0 ∧ zs.getD n 0 ≤ 15
        · exact .inl fun i hi => by
            by_cases e : i = n
            · subst e; exact h2
            · exact h1 i (by omega)
        · exact .inr ⟨n, by omega, by omega, h1⟩
      · exact .inr ⟨k, by omega, h2, h3⟩
  rcases key zs.length (Nat.le_refl _) with h1 | ⟨k, h2⟩
  · exact absurd h1 h
  · exact ⟨k, h2⟩
set_option maxRecDepth 100000 in
set_option maxHeartbeats 1000000 in
theorem check_anyO (v : Value) (zs : List Int) (w : World) (hR : IQ w v zs) (hl : zs.length ≤ 400) :
    Calls Try.prog 73 #[v] w fun e w' => e = .returned (.int .i64 (errN zs : Int)) ∧ w' = w := by
  have HR : Hid (IQ w v zs) := hR
  obtain ⟨g, o, cap, rfl, hg, hc⟩ := hR
  have HC : Hid (∀ i, i < zs.length → w.cell? ⟨g, o + i, none⟩ = some (.int .i64 (zs.getD i 0))) := hc
  clear hc
  by_cases hb : 320 < zs.length
  · have hbi : (320 : Int) < (zs.length : Int) := by omega
    have HE : Hid (_ = _) := errN_big hb
    go_enter Try.func73, Try.ntmps73
    go_wp2
    go_ret
    exact ⟨by rw [HE.out]; rfl, rfl⟩
  have hbi : ¬ (320 : Int) < (zs.length : Int) := by omega
  by_cases hin : in15 zs
  · have HIN : Hid (in15 zs) := hin
    have HFI : Hid (Calls Try.prog 76 #[.slice (some ⟨g, o, none⟩) zs.length cap] w fun e w' => e = .returned (.bool (fitB (toN zs))) ∧ w' = w) := fit_anyO _ zs w HR.out hl hin
    have HE0 : Hid (fitB (toN zs) = true → _ = _) := errN_ok hb hin
    have HE4 : Hid (fitB (toN zs) = false → _ = _) := errN_form hb hin
    clear hin
    go_enter Try.func73, Try.ntmps73
    go_wp2
    go_loop [10] (fun i => ∃ k : Nat, k ≤ zs.length ∧ i = .int .i64 (k : Int)) (fun i => zs.length - (intOf i).toNat)
    case atStart => exact ⟨0, by omega, rfl⟩
    case round =>
      obtain ⟨k, hk, rfl⟩ := hrel
      by_cases hlt : k < zs.length
      · have hck := HC.out k hlt
        obtain ⟨z0, z15⟩ := HIN.out k hlt
        generalize zs.getD k 0 = z at *
        have hki : (k : Int) < (zs.length : Int) := by omega
        have hki0 : (0 : Int) ≤ (k : Int) := by omega
        go_wp2
        go_round
        case rel => exact ⟨k + 1, by omega, by go_num⟩
        case measure => simp [intOf]; omega
      · obtain rfl : k = zs.length := by omega
        cases hF : fitB (toN zs)
        all_goals
          rw [hF] at HFI
          go_wp2_with fail
          refine HFI.out.mono ?_
          rintro e w1 ⟨rfl, rfl⟩
          go_wp2
          go_ret
          first | exact ⟨by rw [HE4.out hF]; rfl, rfl⟩ | exact ⟨by rw [HE0.out hF]; rfl, rfl⟩
  · have HE : Hid (_ = _) := errN_arg hb hin
    obtain ⟨K, hK, hbad, hgood⟩ := not15 hin
    have HG : Hid (∀ i, i < K → 0 ≤ zs.getD i 0 ∧ zs.getD i 0 ≤ 15) := hgood
    clear hin hgood
    go_enter Try.func73, Try.ntmps73
    go_wp2
    go_loop [10] (fun i => ∃ k : Nat, k ≤ K ∧ i = .int .i64 (k : Int)) (fun i => zs.length - (intOf i).toNat)
    case atStart => exact ⟨0, by omega, rfl⟩
    case round =>
      obtain ⟨k, hk, rfl⟩ := hrel
      have hck := HC.out k (by omega)
      have hki : (k : Int) < (zs.length : Int) := by omega
      have hki0 : (0 : Int) ≤ (k : Int) := by omega
      by_cases hlt : k < K
      · obtain ⟨z0, z15⟩ := HG.out k hlt
        clear hbad
        generalize zs.getD k 0 = z at *
        go_wp2
        go_round
        case rel => exact ⟨k + 1, by omega, by go_num⟩
        case measure => simp [intOf]; omega
      · obtain rfl : k = K := by omega
        generalize zs.getD k 0 = z at *
        rcases hbad with hbad | hbad
        · go_wp2
          go_ret
          exact ⟨by rw [HE.out]; rfl, rfl⟩
        · have hz0 : ¬ z < 0 := by omega
          go_wp2
          go_ret
          exact ⟨by rw [HE.out]; rfl, rfl⟩
theorem fit_any (v : Value) (zs : List Int) (w : World) (hR : IR w v zs) (hl : zs.length ≤ 400) (h15 : in15 zs) :
    Calls Try.prog 76 #[v] w fun e w' => e = .returned (.bool (fitB (toN zs))) ∧ w' = w :=
  fit_anyO v zs w hR.io hl h15
theorem check_any (v : Value) (zs : List Int) (w : World) (hR : IR w v zs) (hl : zs.length ≤ 400) :
    Calls Try.prog 73 #[v] w fun e w' => e = .returned (.int .i64 (errN zs : Int)) ∧ w' = w :=
  check_anyO v zs w hR.io hl
end Go.Proofs.Ythkppipdflmekaa
