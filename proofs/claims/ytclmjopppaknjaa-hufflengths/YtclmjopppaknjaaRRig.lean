/- Contracts of the law's own right and of the document's Cost. -/
import Derived.Test.YtclmjopppaknjaaCodZ
import Derived.Deep.QuietTactic
import Derived.BigQuiet
namespace Go.Proofs.Ytclmjopppaknjaa
open Go.RowKit
set_option linter.unusedVariables false
set_option linter.unusedSimpArgs false

/-- What the first k cost. -/
def costK (zs : List Int) (ns : List Nat) (k : Nat) : Nat := sumK (fun i => (zs.getD i 0).toNat * ns.getD i 0) k
theorem costK_hi {zs : List Int} {ns : List Nat} (hM : ∀ i, (zs.getD i 0).toNat ≤ 1000000) (hn : ∀ i, ns.getD i 0 ≤ 15) : ∀ k, costK zs ns k ≤ 15000000 * k
  | 0 => Nat.le_refl _
  | k + 1 => by
    have ih := costK_hi hM hn k
    have h : (zs.getD k 0).toNat * ns.getD k 0 ≤ 1000000 * 15 := Nat.mul_le_mul (hM k) (hn k)
    unfold costK at ih ⊢
    rw [sumK]; omega
theorem zOf_at (ns : List Nat) (i : Nat) (h : i < ns.length) : (zOf ns).getD i 0 = (ns.getD i 0 : Int) := by simp [zOf, List.getD_eq_getElem?_getD, List.getElem?_eq_getElem h]
set_option maxRecDepth 100000 in
set_option maxHeartbeats 1000000 in
theorem cost_any (v u : Value) (zs : List Int) (ns : List Nat) (w : World) (hR : IQ w v zs) (hU : IQ w u (zOf ns)) (hl : zs.length ≤ 320) (hnl : ns.length = zs.length) (h0 : ∀ i, i < zs.length → 0 ≤ zs.getD i 0) (hM : ∀ i, (zs.getD i 0).toNat ≤ 1000000) (hn : ∀ i, ns.getD i 0 ≤ 15) :
    Calls Try.prog 11 #[v, u] w fun e w' => e = .returned (.int .i64 (costK zs ns zs.length : Int)) ∧ Below w.heap.size w w' := by
  obtain ⟨g, o, cap, rfl, hg, hc⟩ := hR
  obtain ⟨g2, o2, cap2, rfl, hg2, hc2⟩ := hU
  have HC : Hid (∀ i, i < zs.length → w.cell? ⟨g, o + i, none⟩ = some (.int .i64 ((zs.getD i 0).toNat : Int))) := fun i hi => by rw [hc i hi]; have := h0 i hi; congr 2; omega
  have HC2 : Hid (∀ i, i < zs.length → w.cell? ⟨g2, o2 + i, none⟩ = some (.int .i64 (ns.getD i 0 : Int))) := fun i hi => by rw [hc2 i (by rw [zOf_len]; omega), zOf_at _ _ (by omega)]
  have HCH : Hid (∀ k, costK zs ns k ≤ 15000000 * k) := costK_hi hM hn
  have HM : Hid (∀ i, (zs.getD i 0).toNat ≤ 1000000) := hM
  have HN : Hid (∀ i, ns.getD i 0 ≤ 15) := hn
  clear hc hc2 hM hn
  rw [zOf_len, hnl]
  go_enter Try.func11, Try.ntmps11
  go_wp2
  go_loopw [5, 9] (fun s i wr => ∃ k : Nat, k ≤ zs.length ∧ i = .int .i64 (k : Int) ∧ s = .int .i64 (costK zs ns k : Int) ∧ Below w.heap.size w wr) (fun _ i _ => zs.length - (intOf i).toNat)
  case atStart => exact ⟨0, by omega, rfl, rfl, Below.refl _ _⟩
  case round =>
    obtain ⟨k, hk, rfl, rfl, hb⟩ := hrel
    by_cases hlt : k < zs.length
    · have hki : (k : Int) < (zs.length : Int) := by omega
      have c1 : wr.cell? ⟨g, o + k, none⟩ = _ := (hb.cell (p := ⟨g, o + k, none⟩) hg).trans (HC.out k hlt)
      have c2 : wr.cell? ⟨g2, o2 + k, none⟩ = _ := (hb.cell (p := ⟨g2, o2 + k, none⟩) hg2).trans (HC2.out k hlt)
      have hs1 := HCH.out k
      have HX : Hid (costK zs ns (k + 1) = costK zs ns k + (zs.getD k 0).toNat * ns.getD k 0) := rfl
      have hm3 : (zs.getD k 0).toNat * ns.getD k 0 ≤ 1000000 * 15 := Nat.mul_le_mul (HM.out k) (HN.out k)
      have hxl : ((zs.getD k 0).toNat : Int) * (ns.getD k 0 : Int) = (((zs.getD k 0).toNat * ns.getD k 0 : Nat) : Int) := by simp
      generalize (zs.getD k 0).toNat * ns.getD k 0 = y at *
      generalize (zs.getD k 0).toNat = x at *
      generalize ns.getD k 0 = z at *
      generalize costK zs ns k = c at *
      have hwr3 : IntKind.i64.wrap ((x : Int) * (z : Int)) = (y : Int) := by rw [hxl, IntKind.wrap_i64]; omega
      have hwr4 : IntKind.i64.wrap ((c : Int) + (y : Int)) = (c : Int) + (y : Int) := by rw [IntKind.wrap_i64]; omega
      clear hxl
      go_wp2
      go_quiet (fail)
      go_wp2
      go_roundw
      case rel => exact ⟨k + 1, by omega, by go_num, by rw [HX.out]; go_num, ⟨hb.os, hb.tape, hb.output, hb.size, hb.block⟩⟩
      case measure => simp [intOf]; omega
    · obtain rfl : k = zs.length := by omega
      go_wp2
      go_ret
      exact ⟨rfl, hb⟩
theorem usedK_leR (ns : List Nat) : ∀ k, usedK ns k ≤ k
  | 0 => Nat.le_refl _
  | k + 1 => by have := usedK_leR ns k; rw [usedK]; split <;> omega
theorem allP_leR (ns : List Nat) : ∀ k, allP ns k ≤ 32768 * k
  | 0 => Nat.le_refl _
  | k + 1 => by
    have ih := allP_leR ns k
    unfold allP at ih ⊢
    rw [partP]
    have : 2 ^ (15 - ln ns k) ≤ 2 ^ 15 := Nat.pow_le_pow_right (by decide) (by omega)
    split <;> omega
theorem shr_pow (n : Nat) (h : n ≤ 15) : (32768 : Int) / 2 ^ n = ((2 ^ (15 - n) : Nat) : Int) := by
  match n, h with | 0, _ | 1, _ | 2, _ | 3, _ | 4, _ | 5, _ | 6, _ | 7, _ | 8, _ | 9, _ | 10, _ | 11, _ | 12, _ | 13, _ | 14, _ | 15, _ => rfl
set_option maxRecDepth 100000 in
set_option maxHeartbeats 4000000 in
theorem right_any (v u : Value) (zs : List Int) (ns : List Nat) (m : Nat) (w : World) (hR : IQ w v zs) (hU : IQ w u (zOf ns)) (hl : zs.length ≤ 320) (hm : m ≤ 15) (h0 : ∀ i, i < zs.length → 0 ≤ zs.getD i 0) (hL : LenP zs m ns)
    (hD : ∀ i j, i < zs.length → j < zs.length → zs.getD j 0 < zs.getD i 0 → 0 < zs.getD j 0 → ns.getD i 0 ≤ ns.getD j 0) :
    Calls Try.prog 10 #[v, u, .int .i64 (m : Int)] w fun e w' => e = .returned (.bool true) ∧ Below w.heap.size w w' := by
  have hnl := hL.len
  obtain ⟨g, o, cap, rfl, hg, hc⟩ := hR
  obtain ⟨g2, o2, cap2, rfl, hg2, hc2⟩ := hU
  have HC : Hid (∀ i, i < zs.length → w.cell? ⟨g, o + i, none⟩ = some (.int .i64 ((zs.getD i 0).toNat : Int))) := fun i hi => by rw [hc i hi]; have := h0 i hi; congr 2; omega
  have HC2 : Hid (∀ i, i < zs.length → w.cell? ⟨g2, o2 + i, none⟩ = some (.int .i64 (ns.getD i 0 : Int))) := fun i hi => by rw [hc2 i (by rw [zOf_len]; omega), zOf_at _ _ (by omega)]
  have HLE : Hid (∀ i, ns.getD i 0 ≤ m) := hL.le
  have HYN : Hid (∀ i, i < zs.length → ((zs.getD i 0).toNat = 0 ↔ ns.getD i 0 = 0)) := fun i hi => by
    constructor
    · intro e; exact hL.no i (by omega)
    · intro e
      by_cases q : 0 < zs.getD i 0
      · have := hL.yes i hi q; omega
      · omega
  have HDD : Hid (∀ i j, i < zs.length → j < zs.length → (zs.getD j 0).toNat < (zs.getD i 0).toNat → 0 < (zs.getD j 0).toNat → ns.getD i 0 ≤ ns.getD j 0) := fun i j hi hj h1 h2 => hD i j hi hj (by omega) (by omega)
  have HFIT : Hid ((usedK ns zs.length = 0 ∧ allP ns zs.length = 0) ∨ (usedK ns zs.length = 1 ∧ allP ns zs.length = 16384) ∨ (2 ≤ usedK ns zs.length ∧ allP ns zs.length = 32768)) := by
    have hf := hL.fit
    unfold fitB at hf
    rw [hnl] at hf
    by_cases u0 : usedK ns zs.length = 0
    · exact .inl ⟨u0, allP_pos ns _ u0⟩
    · rw [if_neg u0] at hf
      by_cases u1 : usedK ns zs.length = 1
      · rw [if_pos u1] at hf
        exact .inr (.inl ⟨u1, by simpa using hf⟩)
      · rw [if_neg u1] at hf
        exact .inr (.inr ⟨by omega, by simpa using hf⟩)
  clear hc hc2 hL hD h0
  rw [zOf_len, hnl]
  go_enter Try.func10, Try.ntmps10
  go_wp2
  go_loopw [7, 8, 20] (fun s c i wr => ∃ k : Nat, k ≤ zs.length ∧ i = .int .i64 (k : Int) ∧ s = .int .i64 (allP ns k : Int) ∧ c = .int .i64 (usedK ns k : Int) ∧ Below w.heap.size w wr) (fun _ _ i _ => zs.length - (intOf i).toNat)
  case atStart => exact ⟨0, by omega, rfl, rfl, rfl, Below.refl _ _⟩
  case round =>
    obtain ⟨k, hk, rfl, rfl, rfl, hb⟩ := hrel
    have hul := usedK_leR ns k
    have hal := allP_leR ns k
    by_cases hlt : k < zs.length
    · have hki : (k : Int) < (zs.length : Int) := by omega
      have c1 : wr.cell? ⟨g, o + k, none⟩ = _ := (hb.cell (p := ⟨g, o + k, none⟩) hg).trans (HC.out k hlt)
      have c2 : wr.cell? ⟨g2, o2 + k, none⟩ = _ := (hb.cell (p := ⟨g2, o2 + k, none⟩) hg2).trans (HC2.out k hlt)
      have HC2K : Hid _ := HC2.out k hlt
      have hyn := HYN.out k hlt
      have hle := HLE.out k
      have HDK : Hid (∀ j, j < zs.length → (zs.getD j 0).toNat < (zs.getD k 0).toNat → 0 < (zs.getD j 0).toNat → ns.getD k 0 ≤ ns.getD j 0) := fun j hj => HDD.out k j hlt hj
      have HU : Hid (usedK ns (k + 1) = usedK ns k + if 0 < ns.getD k 0 then 1 else 0) := rfl
      have HA : Hid (allP ns (k + 1) = allP ns k + if 0 < ns.getD k 0 then 2 ^ (15 - ns.getD k 0) else 0) := by
        unfold Hid allP; rw [partP]; simp [ln]
      have hsh := shr_pow (ns.getD k 0) (by omega)
      have hp2 : 2 ^ (15 - ns.getD k 0) ≤ 2 ^ 15 := Nat.pow_le_pow_right (by decide) (by omega)
      generalize 2 ^ (15 - ns.getD k 0) = P at *
      generalize (zs.getD k 0).toNat = x at *
      generalize ns.getD k 0 = y at *
      generalize usedK ns k = uu at *
      generalize allP ns k = aa at *
      have hyi : ¬ (y : Int) < 0 := by omega
      have hym : ¬ (m : Int) < (y : Int) := by omega
      have hytn : ((y : Int)).toNat = y := by omega
      have INNER : Hid (∀ j, j < zs.length → (zs.getD j 0).toNat < x → 0 < (zs.getD j 0).toNat → y ≤ ns.getD j 0) := HDK.out
      obtain ⟨w2, e2⟩ : ∃ w2, w2 = wr := ⟨_, rfl⟩
      subst e2
      by_cases hx0 : x = 0
      · have hy0 : y = 0 := hyn.1 hx0
        subst hx0
        subst hy0
        rw [if_neg (by omega)] at HU HA
        go_wp2
        go_loopw [61] (fun i wr => ∃ j : Nat, j ≤ zs.length ∧ i = .int .i64 (j : Int) ∧ Below w.heap.size w wr) (fun i _ => zs.length - (intOf i).toNat)
        case atStart => exact ⟨0, by omega, rfl, hb⟩
        case round =>
          clear hb
          obtain ⟨j, hj, rfl, hb⟩ := hrel
          by_cases hjl : j < zs.length
          · have hji : (j : Int) < (zs.length : Int) := by omega
            have c3 : wr.cell? ⟨g, o + j, none⟩ = _ := (hb.cell (p := ⟨g, o + j, none⟩) hg).trans (HC.out j hjl)
            generalize (zs.getD j 0).toNat = xj at *
            have hd1 : decide ((xj : Int) < 0) = false := decide_eq_false (by omega)
            have hd2 : ¬ (xj : Int) < 0 := by omega
            go_wp2
            go_quiet (fail)
            go_wp2
            go_roundw
            case rel => exact ⟨j + 1, by omega, by go_num, ⟨hb.os, hb.tape, hb.output, hb.size, hb.block⟩⟩
            case measure => simp [intOf]; omega
          · obtain rfl : j = zs.length := by omega
            go_wp2
            go_roundw
            case rel => exact ⟨k + 1, by omega, by go_num, by rw [HA.out]; rfl, by rw [HU.out]; rfl, hb⟩
            case measure => simp [intOf]; omega
      · have hy0 : 0 < y := by
          by_cases q : y = 0
          · exact absurd (hyn.2 q) hx0
          · omega
        have hxp : 0 < x := by omega
        rw [if_pos hy0] at HU HA
        have hxi : ¬ (x : Int) = 0 := by omega
        have hyi0 : ¬ (y : Int) = 0 := by omega
        have hxpi : (0 : Int) < (x : Int) := by omega
        have hxb : ((x : Int) == 0) = false := by simpa using hxi
        have hyb : ((y : Int) == 0) = false := by simpa using hyi0
        have hwa : IntKind.i64.wrap ((aa : Int) + (P : Int)) = (aa : Int) + (P : Int) := by rw [IntKind.wrap_i64]; omega
        clear hyn
        go_wp2
        go_loopw [61] (fun i wr => ∃ j : Nat, j ≤ zs.length ∧ i = .int .i64 (j : Int) ∧ Below w.heap.size w wr) (fun i _ => zs.length - (intOf i).toNat)
        case atStart => exact ⟨0, by omega, rfl, hb⟩
        case round =>
          clear hb c1 c2
          obtain ⟨j, hj, rfl, hb⟩ := hrel
          by_cases hjl : j < zs.length
          · have hji : (j : Int) < (zs.length : Int) := by omega
            have c3 : wr.cell? ⟨g, o + j, none⟩ = _ := (hb.cell (p := ⟨g, o + j, none⟩) hg).trans (HC.out j hjl)
            have c4 : wr.cell? ⟨g2, o2 + j, none⟩ = _ := (hb.cell (p := ⟨g2, o2 + j, none⟩) hg2).trans (HC2.out j hjl)
            have c5 : wr.cell? ⟨g2, o2 + k, none⟩ = _ := (hb.cell (p := ⟨g2, o2 + k, none⟩) hg2).trans (HC2K.out)
            have hin := INNER.out j hjl
            generalize (zs.getD j 0).toNat = xj at *
            generalize ns.getD j 0 = yj at *
            have hbF : ∀ n, Below w.heap.size w (wr.drewN n) := fun n => ⟨hb.os, hb.tape, hb.output, hb.size, hb.block⟩
            by_cases h1 : xj < x
            · have h1d : decide ((xj : Int) < (x : Int)) = true := decide_eq_true (by omega)
              have h1i : (xj : Int) < (x : Int) := by omega
              by_cases h2 : 0 < xj
              · have h2d : decide ((0 : Int) < (xj : Int)) = true := decide_eq_true (by omega)
                have h2i : (0 : Int) < (xj : Int) := by omega
                have h3 := hin h1 h2
                have h3i : ¬ (yj : Int) < (y : Int) := by omega
                go_wp2
                go_quiet (fail)
                go_wp2
                go_roundw
                case rel => exact ⟨j + 1, by omega, by go_num, hbF _⟩
                case measure => simp [intOf]; omega
              · have h2d : decide ((0 : Int) < (xj : Int)) = false := decide_eq_false (by omega)
                have h2i : ¬ (0 : Int) < (xj : Int) := by omega
                obtain rfl : xj = 0 := by omega
                go_wp2
                go_quiet (fail)
                go_wp2
                go_roundw
                case rel => exact ⟨j + 1, by omega, by go_num, hbF _⟩
                case measure => simp [intOf]; omega
            · have h1d : decide ((xj : Int) < (x : Int)) = false := decide_eq_false (by omega)
              have h1i : ¬ (xj : Int) < (x : Int) := by omega
              go_wp2
              go_quiet (fail)
              go_wp2
              go_roundw
              case rel => exact ⟨j + 1, by omega, by go_num, hbF _⟩
              case measure => simp [intOf]; omega
          · obtain rfl : j = zs.length := by omega
            go_wp2
            go_roundw
            case rel => exact ⟨k + 1, by omega, by go_num, by rw [HA.out]; go_num, by rw [HU.out]; go_num, hb⟩
            case measure => simp [intOf]; omega
    · obtain rfl : k = zs.length := by omega
      have hF := HFIT.out
      generalize usedK ns zs.length = uu at *
      generalize allP ns zs.length = aa at *
      rcases hF with ⟨rfl, rfl⟩ | ⟨rfl, rfl⟩ | ⟨hu2, rfl⟩
      · go_wp2
        go_ret
        exact ⟨rfl, hb⟩
      · go_wp2
        go_ret
        exact ⟨rfl, hb⟩
      · have hu0 : ¬ (uu : Int) = 0 := by omega
        have hu1 : ¬ (uu : Int) = 1 := by omega
        go_wp2
        go_ret
        exact ⟨rfl, hb⟩
end Go.Proofs.Ytclmjopppaknjaa
