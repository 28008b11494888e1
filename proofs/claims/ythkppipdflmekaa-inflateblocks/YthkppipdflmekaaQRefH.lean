/- Contracts of the document's Fit and Code. -/
import Derived.Test.YthkppipdflmekaaQTreeM
namespace Go.Proofs.Ythkppipdflmekaa
open Go.RowKit
set_option linter.unusedVariables false

/-- How many of the first k are 1. -/
def onesK (ns : List Nat) : Nat → Nat
  | 0 => 0
  | k + 1 => onesK ns k + if ln ns k = 1 then 1 else 0
theorem onesK_le (ns : List Nat) : ∀ k, onesK ns k ≤ usedK ns k
  | 0 => Nat.le_refl _
  | k + 1 => by
    have := onesK_le ns k
    rw [onesK, usedK]
    split <;> split <;> omega
theorem one_used (ns : List Nat) (h15 : all15 ns) : ∀ k, usedK ns k = 1 → (allP ns k = 16384 ↔ onesK ns k = 1) ∧ allP ns k ≤ 16384
  | 0, h => by simp [usedK] at h
  | k + 1, h => by
    have hl := h15.at k
    rw [usedK] at h
    have e : allP ns (k + 1) = allP ns k + if 0 < ln ns k ∧ (fun _ => true) k = true then 2 ^ (15 - ln ns k) else 0 := rfl
    rw [e, onesK]
    by_cases hp : 0 < ln ns k
    · rw [if_pos hp] at h
      have h0 : usedK ns k = 0 := by omega
      have h1 := allP_pos ns k h0
      have h2 := onesK_le ns k
      rw [h1, if_pos ⟨hp, rfl⟩]
      have h14 : 2 ^ (15 - ln ns k) ≤ 2 ^ 14 := Nat.pow_le_pow_right (by decide) (by omega)
      refine ⟨?_, by omega⟩
      by_cases e1 : ln ns k = 1
      · rw [if_pos e1, e1]; omega
      · rw [if_neg e1]
        have h13 : 2 ^ (15 - ln ns k) ≤ 2 ^ 13 := Nat.pow_le_pow_right (by decide) (by omega)
        omega
    · rw [if_neg hp] at h
      have := one_used ns h15 k (by omega)
      rw [if_neg (fun hh => hp hh.1), if_neg (by omega)]
      exact this
theorem fit_ones (ns : List Nat) (h15 : all15 ns) : fitB ns = true ↔ (usedK ns ns.length = 0 ∨ allP ns ns.length = 32768 ∨ (usedK ns ns.length = 1 ∧ onesK ns ns.length = 1)) := by
  unfold fitB
  by_cases h0 : usedK ns ns.length = 0
  · rw [if_pos h0]; simp [h0]
  · rw [if_neg h0]
    by_cases h1 : usedK ns ns.length = 1
    · rw [if_pos h1]
      obtain ⟨h2, h3⟩ := one_used ns h15 _ h1
      simp only [beq_iff_eq]
      omega
    · rw [if_neg h1]
      simp only [beq_iff_eq]
      omega
theorem half_next (i : Nat) (h : i < 15) : ((2 ^ (15 - i) : Nat) : Int).tdiv 2 = ((2 ^ (15 - (i + 1)) : Nat) : Int) := by
  have e : 2 ^ (15 - i) = 2 * 2 ^ (15 - (i + 1)) := by rw [show 15 - i = (15 - (i + 1)) + 1 by omega, Nat.pow_succ, Nat.mul_comm]
  rw [e, Int.tdiv_eq_ediv_of_nonneg (by omega)]
  omega
set_option maxRecDepth 100000 in
set_option maxHeartbeats 1000000 in
theorem rfit_anyO (v : Value) (zs : List Int) (w : World) (hR : IQ w v zs) (hl : zs.length ≤ 400) :
    Calls Try.prog 26 #[v] w fun e w' => e = .returned (.int .i64 (errN zs : Int)) ∧ w' = w := by
  obtain ⟨g, o, cap, rfl, hg, hc⟩ := hR
  have HC : Hid (∀ i, i < zs.length → w.cell? ⟨g, o + i, none⟩ = some (.int .i64 (zs.getD i 0))) := hc
  clear hc
  by_cases hb : 320 < zs.length
  · have hbi : (320 : Int) < (zs.length : Int) := by omega
    have HE : Hid (_ = _) := errN_big hb
    go_enter Try.func26, Try.ntmps26
    go_wp2
    go_ret
    exact ⟨by rw [HE.out]; rfl, rfl⟩
  have hbi : ¬ (320 : Int) < (zs.length : Int) := by omega
  by_cases hin : in15 zs
  · have HIN : Hid (in15 zs) := hin
    have HE0 : Hid (fitB (toN zs) = true → errN zs = 0) := errN_ok hb hin
    have HE4 : Hid (fitB (toN zs) = false → errN zs = 4) := errN_form hb hin
    have HFO : Hid (fitB (toN zs) = true ↔ (usedK (toN zs) zs.length = 0 ∨ allP (toN zs) zs.length = 32768 ∨ (usedK (toN zs) zs.length = 1 ∧ onesK (toN zs) zs.length = 1))) := by
      have := fit_ones (toN zs) hin.all
      rw [toN_len] at this
      exact this
    have HU : Hid (∀ k, usedK (toN zs) k ≤ k) := usedK_le (toN zs)
    have HO : Hid (∀ k, onesK (toN zs) k ≤ usedK (toN zs) k) := onesK_le (toN zs)
    have HP : Hid (∀ k, allP (toN zs) k ≤ k * 16384) := allP_le (toN zs)
    clear hin
    go_enter Try.func26, Try.ntmps26
    go_wp2
    go_loop [17] (fun i => ∃ k : Nat, k ≤ zs.length ∧ i = .int .i64 (k : Int)) (fun i => zs.length - (intOf i).toNat)
    case atStart => exact ⟨0, by omega, rfl⟩
    case round =>
      obtain ⟨k, hk, rfl⟩ := hrel
      by_cases hlt : k < zs.length
      · have hck := HC.out k hlt
        obtain ⟨z0, z15⟩ := HIN.out k hlt
        generalize zs.getD k 0 = z at *
        have hki : (k : Int) < (zs.length : Int) := by omega
        have hki0 : (0 : Int) ≤ (k : Int) := by omega
        go_wp2
        go_round
        case rel => exact ⟨k + 1, by omega, by go_num⟩
        case measure => simp [intOf]; omega
      · obtain rfl : k = zs.length := by omega
        go_wp2
        go_loop [5, 6, 7, 30] (fun p u o i => ∃ k : Nat, k ≤ zs.length ∧ i = .int .i64 (k : Int) ∧ u = .int .i64 (usedK (toN zs) k : Int) ∧ p = .int .i64 (allP (toN zs) k : Int) ∧ o = .int .i64 (onesK (toN zs) k : Int)) (fun _ _ _ i => zs.length - (intOf i).toNat)
        case atStart => exact ⟨0, by omega, rfl, rfl, rfl, rfl⟩
        case round =>
          obtain ⟨k, hk, rfl, rfl, rfl, rfl⟩ := hrel
          have hu := HU.out k
          have hp := HP.out k
          have ho := HO.out k
          by_cases hlt : k < zs.length
          · have hck := HC.out k hlt
            obtain ⟨z0, z15⟩ := HIN.out k hlt
            have hln := toN_ln zs k hlt z0
            have HUs : Hid (usedK (toN zs) (k + 1) = usedK (toN zs) k + if 0 < ln (toN zs) k then 1 else 0) := rfl
            have HPs : Hid (allP (toN zs) (k + 1) = allP (toN zs) k + if 0 < ln (toN zs) k ∧ (fun _ => true) k = true then 2 ^ (15 - ln (toN zs) k) else 0) := rfl
            have HOs : Hid (onesK (toN zs) (k + 1) = onesK (toN zs) k + if ln (toN zs) k = 1 then 1 else 0) := rfl
            generalize usedK (toN zs) k = U at *
            generalize allP (toN zs) k = P at *
            generalize onesK (toN zs) k = O at *
            generalize ln (toN zs) k = n at *
            rw [← hln] at hck z0 z15
            clear hln
            have hki : (k : Int) < (zs.length : Int) := by omega
            have hki0 : (0 : Int) ≤ (k : Int) := by omega
            by_cases hn0 : 0 < n
            · have hni : (0 : Int) < (n : Int) := by omega
              go_wp2
              go_loop [10, 11] (fun p i => ∃ m : Nat, m ≤ n ∧ i = .int .i64 (m : Int) ∧ p = .int .i64 ((2 ^ (15 - m) : Nat) : Int)) (fun _ i => n - (intOf i).toNat)
              case atStart => exact ⟨0, by omega, rfl, rfl⟩
              case round =>
                obtain ⟨m, hm, rfl, rfl⟩ := hrel
                by_cases hmn : m < n
                · have hmi : (m : Int) < (n : Int) := by omega
                  have hh := half_next m (by omega)
                  have hle : 2 ^ (15 - m) ≤ 2 ^ 15 := Nat.pow_le_pow_right (by decide) (by omega)
                  have hle2 : 2 ^ (15 - (m + 1)) ≤ 2 ^ 15 := Nat.pow_le_pow_right (by decide) (by omega)
                  generalize hQ2 : 2 ^ (15 - (m + 1)) = Q2 at *
                  generalize 2 ^ (15 - m) = Q1 at *
                  go_wp2
                  go_round
                  case rel => exact ⟨m + 1, by omega, by go_num, by rw [hQ2]⟩
                  case measure => simp [intOf]; omega
                · obtain rfl : m = n := by omega
                  have h14 : 2 ^ (15 - m) ≤ 16384 := Nat.pow_le_pow_right (n := 2) (i := 15 - m) (j := 14) (by decide) (by omega)
                  generalize 2 ^ (15 - m) = Q at *
                  by_cases h1 : m = 1
                  · subst h1
                    go_wp2
                    go_round
                    case rel => exact ⟨k + 1, by omega, by go_num, by rw [HUs.out, if_pos hn0]; rfl, by rw [HPs.out, if_pos ⟨hn0, trivial⟩]; rfl, by rw [HOs.out, if_pos rfl]; rfl⟩
                    case measure => simp [intOf]; omega
                  · have h1i : ((m : Int) == 1) = false := by simp; omega
                    go_wp2
                    go_round
                    case rel => exact ⟨k + 1, by omega, by go_num, by rw [HUs.out, if_pos hn0]; rfl, by rw [HPs.out, if_pos ⟨hn0, trivial⟩]; rfl, by rw [HOs.out, if_neg h1]; rfl⟩
                    case measure => simp [intOf]; omega
            · obtain rfl : n = 0 := by omega
              go_wp2
              go_round
              case rel => exact ⟨k + 1, by omega, by go_num, by rw [HUs.out, if_neg hn0]; rfl, by rw [HPs.out, if_neg (fun h => hn0 h.1)]; rfl, by rw [HOs.out, if_neg (by decide)]; rfl⟩
              case measure => simp [intOf]; omega
          · obtain rfl : k = zs.length := by omega
            generalize usedK (toN zs) zs.length = U at *
            generalize allP (toN zs) zs.length = P at *
            generalize onesK (toN zs) zs.length = O at *
            by_cases h0 : U = 0
            · subst h0
              have hE : Hid (errN zs = 0) := HE0.out (HFO.out.2 (.inl rfl))
              go_wp2
              go_ret
              exact ⟨by rw [hE.out]; rfl, rfl⟩
            · have h0i : ((U : Int) == 0) = false := by simp; omega
              by_cases hP : P = 32768
              · subst hP
                have hE : Hid (errN zs = 0) := HE0.out (HFO.out.2 (.inr (.inl rfl)))
                go_wp2
                go_ret
                exact ⟨by rw [hE.out]; rfl, rfl⟩
              · have hPi : ((P : Int) == 32768) = false := by simp; omega
                by_cases h1 : U = 1
                · subst h1
                  by_cases hO1 : O = 1
                  · subst hO1
                    have hE : Hid (errN zs = 0) := HE0.out (HFO.out.2 (.inr (.inr ⟨rfl, rfl⟩)))
                    go_wp2
                    go_ret
                    exact ⟨by rw [hE.out]; rfl, rfl⟩
                  · have hOi : ((O : Int) == 1) = false := by simp; omega
                    have hE : Hid (errN zs = 4) := HE4.out (by rw [← Bool.not_eq_true, HFO.out]; omega)
                    go_wp2
                    go_ret
                    exact ⟨by rw [hE.out]; rfl, rfl⟩
                · have h1i : ((U : Int) == 1) = false := by simp; omega
                  have hE : Hid (errN zs = 4) := HE4.out (by rw [← Bool.not_eq_true, HFO.out]; omega)
                  go_wp2
                  go_ret
                  exact ⟨by rw [hE.out]; rfl, rfl⟩
  · have HE : Hid (_ = _) := errN_arg hb hin
    obtain ⟨K, hK, hbad, hgood⟩ := not15 hin
    have HG : Hid (∀ i, i < K → 0 ≤ zs.getD i 0 ∧ zs.getD i 0 ≤ 15) := hgood
    clear hin hgood
    go_enter Try.func26, Try.ntmps26
    go_wp2
    go_loop [17] (fun i => ∃ k : Nat, k ≤ K ∧ i = .int .i64 (k : Int)) (fun i => zs.length - (intOf i).toNat)
    case atStart => exact ⟨0, by omega, rfl⟩
    case round =>
      obtain ⟨k, hk, rfl⟩ := hrel
      have hck := HC.out k (by omega)
      have hki : (k : Int) < (zs.length : Int) := by omega
      have hki0 : (0 : Int) ≤ (k : Int) := by omega
      by_cases hlt : k < K
      · obtain ⟨z0, z15⟩ := HG.out k hlt
        clear hbad
        generalize zs.getD k 0 = z at *
        go_wp2
        go_round
        case rel => exact ⟨k + 1, by omega, by go_num⟩
        case measure => simp [intOf]; omega
      · obtain rfl : k = K := by omega
        generalize zs.getD k 0 = z at *
        rcases hbad with hbad | hbad
        · go_wp2
          go_ret
          exact ⟨by rw [HE.out]; rfl, rfl⟩
        · have hz0 : ¬ z < 0 := by omega
          go_wp2
          go_ret
          exact ⟨by rw [HE.out]; rfl, rfl⟩
theorem rfit_any (v : Value) (zs : List Int) (w : World) (hR : IR w v zs) (hl : zs.length ≤ 400) :
    Calls Try.prog 26 #[v] w fun e w' => e = .returned (.int .i64 (errN zs : Int)) ∧ w' = w :=
  rfit_anyO v zs w hR.io hl
theorem cdK_step (ns : List Nat) (n s k : Nat) : cdK ns n s (k + 1) = cdK ns n s k + if 0 < ln ns k ∧ ahead ns n s k = true then 2 ^ (n - ln ns k) else 0 := rfl
set_option maxRecDepth 100000 in
set_option maxHeartbeats 1000000 in
theorem rcode_anyO (v : Value) (zs : List Int) (s : Nat) (w : World) (hR : IQ w v zs) (hl : zs.length ≤ 320) (hin : in15 zs) (hs : s < zs.length) :
    Calls Try.prog 40 #[v, .int .i64 (s : Int)] w fun e w' => e = .returned (.int .u32 (cd (toN zs) (ln (toN zs) s) s : Int)) ∧ w' = w := by
  obtain ⟨g, o, cap, rfl, hg, hc⟩ := hR
  have HC : Hid (∀ i, i < zs.length → w.cell? ⟨g, o + i, none⟩ = some (.int .i64 (ln (toN zs) i : Int))) := fun i hi => by rw [hc i hi, toN_ln zs i hi (hin i hi).1]
  have HL15 : Hid (∀ i, ln (toN zs) i ≤ 15) := fun i => hin.all.at i
  have hcs := HC.out s hs
  have hn15 := HL15.out s
  have HCD : Hid (cd (toN zs) (ln (toN zs) s) s = cdK (toN zs) (ln (toN zs) s) s zs.length) := by unfold Hid cd; rw [toN_len]
  have HBd : Hid (∀ k, k ≤ 320 → cdK (toN zs) (ln (toN zs) s) s k ≤ 320 * 16384) := fun k hk => Nat.le_trans (cdK_le _ _ _ hn15 _) (Nat.mul_le_mul_right _ hk)
  have HSt : Hid (∀ k, cdK (toN zs) (ln (toN zs) s) s (k + 1) = cdK (toN zs) (ln (toN zs) s) s k + if 0 < ln (toN zs) k ∧ ahead (toN zs) (ln (toN zs) s) s k = true then 2 ^ (ln (toN zs) s - ln (toN zs) k) else 0) := fun k => rfl
  rw [HCD.out]
  clear hc hin HCD
  generalize hN : ln (toN zs) s = N at *
  have hsi : (s : Int) < (zs.length : Int) := by omega
  have hsi0 : (0 : Int) ≤ (s : Int) := by omega
  go_enter Try.func40, Try.ntmps40
  go_wp2
  go_loop [5, 10] (fun x i => ∃ k : Nat, k ≤ zs.length ∧ i = .int .i64 (k : Int) ∧ x = .int .u32 (cdK (toN zs) N s k : Int)) (fun _ i => zs.length - (intOf i).toNat)
  case atStart => exact ⟨0, by omega, rfl, rfl⟩
  case round =>
    obtain ⟨k, hk, rfl, rfl⟩ := hrel
    have hbd := HBd.out k (by omega)
    by_cases hlt : k < zs.length
    · have hck := HC.out k hlt
      have HS := HSt.out k
      have HA : Hid (∀ q, q = ln (toN zs) k → (ahead (toN zs) N s k = true ↔ q < N ∨ (q = N ∧ k < s))) := fun q hq => by rw [hq]; exact ahead_iff
      have HAk := HA.out _ rfl
      have hbd2 := HBd.out (k + 1) (by omega)
      have hki : (k : Int) < (zs.length : Int) := by omega
      have hki0 : (0 : Int) ≤ (k : Int) := by omega
      have HS' : Hid (cdK (toN zs) N s (k + 1) = cdK (toN zs) N s k + if 0 < ln (toN zs) k ∧ ahead (toN zs) N s k = true then 2 ^ (N - ln (toN zs) k) else 0) := HS
      have hm15 := HL15.out k
      clear HS HA
      generalize hX : cdK (toN zs) N s k = X at *
      generalize hY : cdK (toN zs) N s (k + 1) = Y at *
      generalize hm : ln (toN zs) k = m at *
      by_cases hc : 0 < m ∧ ahead (toN zs) N s k = true
      · have HY : Hid (Y = X + 2 ^ (N - m)) := by unfold Hid; rw [HS'.out, if_pos hc]
        have hor := HAk.1 hc.2
        have hm0 := hc.1
        have hm0i : (0 : Int) < (m : Int) := by omega
        have hle : m ≤ N := by omega
        have hp : (2 : Int) ^ (N - m) = ((2 ^ (N - m) : Nat) : Int) := by simp
        have hp15 : 2 ^ (N - m) ≤ 2 ^ 15 := Nat.pow_le_pow_right (by decide) (by omega)
        have hsub : (0 : Int) ≤ (N : Int) - (m : Int) := by omega
        have hsubn : ((N : Int) - (m : Int)).toNat = N - m := by omega
        have HQ1 : Hid (m = N → 2 ^ (N - m) = 1) := fun h => by rw [h, Nat.sub_self]
        clear HAk HS' hc
        generalize 2 ^ (N - m) = Q at *
        rcases hor with h1 | ⟨h1, h2⟩
        · have h1i : (m : Int) < (N : Int) := by omega
          go_wp2
          go_round
          case rel => exact ⟨k + 1, by omega, by go_num, by rw [hY, HY.out]; go_num⟩
          case measure => simp [intOf]; omega
        · have h1i : ¬ (m : Int) < (N : Int) := by omega
          have h1e : ((m : Int) == (N : Int)) = true := by simp; omega
          have h2i : (k : Int) < (s : Int) := by omega
          obtain rfl := HQ1.out h1
          go_wp2
          go_round
          case rel => exact ⟨k + 1, by omega, by go_num, by rw [hY, HY.out]; go_num⟩
          case measure => simp [intOf]; omega
      · have HY : Hid (Y = X) := by unfold Hid; rw [HS'.out, if_neg hc]; rfl
        by_cases hm0 : 0 < m
        · have hno : ¬ (m < N ∨ (m = N ∧ k < s)) := fun h => hc ⟨hm0, HAk.2 h⟩
          have hm0i : (0 : Int) < (m : Int) := by omega
          clear HAk HS' hc
          have h1i : ¬ (m : Int) < (N : Int) := by omega
          by_cases hmN : m = N
          · have h1e : ((m : Int) == (N : Int)) = true := by simp; omega
            have h2i : ¬ (k : Int) < (s : Int) := by omega
            clear hno
            go_wp2
            go_round
            case rel => exact ⟨k + 1, by omega, by go_num, by rw [hY, HY.out]⟩
            case measure => simp [intOf]; omega
          · have h1e : ((m : Int) == (N : Int)) = false := by simp; omega
            clear hno
            go_wp2
            go_round
            case rel => exact ⟨k + 1, by omega, by go_num, by rw [hY, HY.out]⟩
            case measure => simp [intOf]; omega
        · obtain rfl : m = 0 := by omega
          clear HAk HS' hc
          go_wp2
          go_round
          case rel => exact ⟨k + 1, by omega, by go_num, by rw [hY, HY.out]⟩
          case measure => simp [intOf]; omega
    · obtain rfl : k = zs.length := by omega
      go_wp2
      go_ret
      exact ⟨rfl, rfl⟩
theorem rcode_any (v : Value) (zs : List Int) (s : Nat) (w : World) (hR : IR w v zs) (hl : zs.length ≤ 320) (hin : in15 zs) (hs : s < zs.length) :
    Calls Try.prog 40 #[v, .int .i64 (s : Int)] w fun e w' => e = .returned (.int .u32 (cd (toN zs) (ln (toN zs) s) s : Int)) ∧ w' = w :=
  rcode_anyO v zs s w hR.io hl hin hs
end Go.Proofs.Ythkppipdflmekaa
