/- Contract of huff.checkCounts. -/
import Derived.Test.YtclmjopppaknjaaHCmp
namespace Go.Proofs.Ytclmjopppaknjaa
open Go.RowKit
set_option linter.unusedVariables false
set_option linter.unusedSimpArgs false

/-- All counts of 0 to 1000000? -/
def inM (zs : List Int) : Prop := ∀ i, i < zs.length → 0 ≤ zs.getD i 0 ∧ zs.getD i 0 ≤ 1000000
/-- The first one that isn't, or none. -/
theorem notM {zs : List Int} (h : ¬ inM zs) : ∃ k, k < zs.length ∧ (zs.getD k 0 < 0 ∨ 1000000 < zs.getD k 0) ∧ ∀ i, i < k → 0 ≤ zs.getD i 0 ∧ zs.getD i 0 ≤ 1000000 := by
  have key : ∀ n, n ≤ zs.length → (∀ i, i < n → 0 ≤ zs.getD i 0 ∧ zs.getD i 0 ≤ 1000000) ∨ ∃ k, k < n ∧ (zs.getD k 0 < 0 ∨ 1000000 < zs.getD k 0) ∧ ∀ i, i < k → 0 ≤ zs.getD i 0 ∧ zs.getD i 0 ≤ 1000000 := by
    intro n
    induction n with
    | zero => intro _; exact .inl fun i hi => by omega
    | succ n ih =>
      intro hn
      rcases ih (by omega) with h1 | ⟨k, hk, h2, h3⟩
      · by_cases h2 : 0 ≤ zs.getD n 0 ∧ zs.getD n 0 ≤ 1000000
        · exact .inl fun i hi => by
            by_cases e : i = n
            · subst e; exact h2
            · exact h1 i (by omega)
        · exact .inr ⟨n, by omega, by omega, h1⟩
      · exact .inr ⟨k, by omega, h2, h3⟩
  rcases key zs.length (Nat.le_refl _) with h1 | ⟨k, h2⟩
  · exact absurd h1 h
  · exact ⟨k, h2⟩
theorem getD_in {zs : List Int} {k : Nat} (hk : k < zs.length) : zs.getD k 0 ∈ zs := by
  rw [List.getD_eq_getElem?_getD, List.getElem?_eq_getElem hk]; exact List.getElem_mem hk
theorem inM.all {zs : List Int} (h : inM zs) : ¬ ∃ z ∈ zs, z < 0 ∨ 1000000 < z := by
  rintro ⟨z, hz, hb⟩
  obtain ⟨i, hi, rfl⟩ := List.getElem_of_mem hz
  have := h i hi
  rw [List.getD_eq_getElem?_getD, List.getElem?_eq_getElem hi] at this
  simp at this
  omega
theorem chkC_big {zs : List Int} {m : Int} (h : 320 < zs.length) : chkC zs m = 2 := by unfold chkC; rw [if_pos h]
theorem chkC_most {zs : List Int} {m : Int} (h : ¬ 320 < zs.length) (hm : m < 1 ∨ 15 < m) : chkC zs m = 1 := by unfold chkC; rw [if_neg h, if_pos hm]
theorem chkC_arg {zs : List Int} {m : Int} (h : ¬ 320 < zs.length) (hm : ¬ (m < 1 ∨ 15 < m)) {k : Nat} (hk : k < zs.length) (hb : zs.getD k 0 < 0 ∨ 1000000 < zs.getD k 0) : chkC zs m = 1 := by
  unfold chkC; rw [if_neg h, if_neg hm, if_pos ⟨_, getD_in hk, hb⟩]
theorem chkC_ok {zs : List Int} {m : Int} (h : ¬ 320 < zs.length) (hm : ¬ (m < 1 ∨ 15 < m)) (hi : inM zs) : chkC zs m = 0 := by
  unfold chkC; rw [if_neg h, if_neg hm, if_neg hi.all]
set_option maxRecDepth 100000 in
set_option maxHeartbeats 1000000 in
theorem chkC_any (v : Value) (zs : List Int) (m : Int) (w : World) (hR : IQ w v zs) (hl : zs.length ≤ 2 ^ 40) :
    Calls Try.prog 29 #[v, .int .i64 m] w fun e w' => e = .returned (.int .i64 (chkC zs m : Int)) ∧ w' = w := by
  obtain ⟨g, o, cap, rfl, hg, hc⟩ := hR
  have HC : Hid (∀ i, i < zs.length → w.cell? ⟨g, o + i, none⟩ = some (.int .i64 (zs.getD i 0))) := hc
  clear hc
  by_cases hb : 320 < zs.length
  · have hbi : (320 : Int) < (zs.length : Int) := by omega
    have HE : Hid (chkC zs m = 2) := chkC_big hb
    go_enter Try.func29, Try.ntmps29
    go_wp2
    go_ret
    exact ⟨by rw [HE.out]; rfl, rfl⟩
  have hbi : ¬ (320 : Int) < (zs.length : Int) := by omega
  by_cases hm1 : m < 1
  · have HE : Hid (chkC zs m = 1) := chkC_most hb (.inl hm1)
    go_enter Try.func29, Try.ntmps29
    go_wp2
    go_ret
    exact ⟨by rw [HE.out]; rfl, rfl⟩
  by_cases hm2 : 15 < m
  · have HE : Hid (chkC zs m = 1) := chkC_most hb (.inr hm2)
    go_enter Try.func29, Try.ntmps29
    go_wp2
    go_ret
    exact ⟨by rw [HE.out]; rfl, rfl⟩
  by_cases hin : inM zs
  · have HIN : Hid (inM zs) := hin
    have HE : Hid (chkC zs m = 0) := chkC_ok hb (by omega) hin
    clear hin
    go_enter Try.func29, Try.ntmps29
    go_wp2
    go_loop [18] (fun i => ∃ k : Nat, k ≤ zs.length ∧ i = .int .i64 (k : Int)) (fun i => zs.length - (intOf i).toNat)
    case atStart => exact ⟨0, by omega, rfl⟩
    case round =>
      obtain ⟨k, hk, rfl⟩ := hrel
      by_cases hlt : k < zs.length
      · have hck := HC.out k hlt
        obtain ⟨z0, z15⟩ := HIN.out k hlt
        generalize zs.getD k 0 = z at *
        have hki : (k : Int) < (zs.length : Int) := by omega
        have hki0 : (0 : Int) ≤ (k : Int) := by omega
        go_wp2
        go_round
        case rel => exact ⟨k + 1, by omega, by go_num⟩
        case measure => simp [intOf]; omega
      · obtain rfl : k = zs.length := by omega
        go_wp2
        go_ret
        exact ⟨by rw [HE.out]; rfl, rfl⟩
  · obtain ⟨K, hK, hbad, hgood⟩ := notM hin
    have HE : Hid (chkC zs m = 1) := chkC_arg hb (by omega) hK hbad
    have HG : Hid (∀ i, i < K → 0 ≤ zs.getD i 0 ∧ zs.getD i 0 ≤ 1000000) := hgood
    clear hin hgood
    go_enter Try.func29, Try.ntmps29
    go_wp2
    go_loop [18] (fun i => ∃ k : Nat, k ≤ K ∧ i = .int .i64 (k : Int)) (fun i => zs.length - (intOf i).toNat)
    case atStart => exact ⟨0, by omega, rfl⟩
    case round =>
      obtain ⟨k, hk, rfl⟩ := hrel
      have hck := HC.out k (by omega)
      have hki : (k : Int) < (zs.length : Int) := by omega
      have hki0 : (0 : Int) ≤ (k : Int) := by omega
      by_cases hlt : k < K
      · obtain ⟨z0, z15⟩ := HG.out k hlt
        clear hbad
        generalize zs.getD k 0 = z at *
        go_wp2
        go_round
        case rel => exact ⟨k + 1, by omega, by go_num⟩
        case measure => simp [intOf]; omega
      · obtain rfl : k = K := by omega
        generalize zs.getD k 0 = z at *
        rcases hbad with hbad | hbad
        · go_wp2
          go_ret
          exact ⟨by rw [HE.out]; rfl, rfl⟩
        · have hz0 : ¬ z < 0 := by omega
          go_wp2
          go_ret
          exact ⟨by rw [HE.out]; rfl, rfl⟩
end Go.Proofs.Ytclmjopppaknjaa
