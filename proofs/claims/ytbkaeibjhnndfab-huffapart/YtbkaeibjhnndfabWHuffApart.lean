/- The walk of the law HuffApart: it returns true at every input. -/
import Derived.Test.YtbkaeibjhnndfabAwake4
import Derived.Deep.QuietTactic
import Derived.BigQuiet
import Derived.Deep.DeepCutAuto
namespace Go.Proofs.Ytbkaeibjhnndfab
open Go.RowKit
set_option linter.unusedVariables false

theorem cdOf_pos (ns : List Nat) (s : Nat) (h : 0 < ln ns s) : cdOf ns s = cd ns (ln ns s) s := by unfold cdOf; rw [if_pos h]
theorem apart_ne (ns : List Nat) (h15 : all15 ns) (s t n : Nat) (hs : s < ns.length) (ht : t < ns.length) (hne : s ≠ t) (ps : 0 < ln ns s) (pt : 0 < ln ns t) (hn : n = min (ln ns s) (ln ns t)) :
    cdOf ns s / 2 ^ (ln ns s - n) ≠ cdOf ns t / 2 ^ (ln ns t - n) := by
  rw [cdOf_pos ns s ps, cdOf_pos ns t pt]
  rcases ahead_total ns s t hne with h | h
  · have h1 := cd_apart ns h15 s t ht pt h
    have hle := ahead_iff.1 h
    have e : n = ln ns t := by omega
    rw [e, Nat.sub_self, Nat.pow_zero, Nat.div_one]; omega
  · have h1 := cd_apart ns h15 t s hs ps h
    have hle := ahead_iff.1 h
    have e : n = ln ns s := by omega
    rw [e, Nat.sub_self, Nat.pow_zero, Nat.div_one]; omega
theorem cdOf_fits (ns : List Nat) (h15 : all15 ns) (hf : fitB ns = true) (s : Nat) (hs : s < ns.length) : cdOf ns s / 2 ^ ln ns s = 0 ∧ cdOf ns s < 32768 := by
  unfold cdOf
  by_cases h : 0 < ln ns s
  · rw [if_pos h]
    have h1 := cd_lt ns h15 hf s hs h
    have h2 : 2 ^ ln ns s ≤ 32768 := Nat.pow_le_pow_right (n := 2) (i := ln ns s) (j := 15) (by decide) (h15.at s)
    exact ⟨Nat.div_eq_of_lt h1, by omega⟩
  · rw [if_neg h]; exact ⟨Nat.zero_div _, by decide⟩
theorem shr_int (x k : Nat) : ((x : Int) / 2 ^ k) = ((x / 2 ^ k : Nat) : Int) := by simp
theorem CR.below {w w' : World} {g n : Nat} {b l : Nat → Nat} (h : CR w g n b l) (hb : Below w.heap.size w w') : CR w' g n b l := h.of_block (hb.block g h.lt)
theorem apart_end (ns : List Nat) (hf : fitB ns = true) : usedK ns ns.length = 0 ∨ (usedK ns ns.length = 1 ∧ allP ns ns.length = 16384) ∨ allP ns ns.length = 32768 := by
  unfold fitB at hf
  split at hf
  · rename_i h; exact .inl h
  · split at hf
    · rename_i h; exact .inr (.inl ⟨h, by simpa using hf⟩)
    · exact .inr (.inr (by simpa using hf))
set_option maxRecDepth 100000 in
set_option maxHeartbeats 4000000 in
theorem lawHuffApart_walk (a : Option Addr) (len cap : Nat) (zs : List Int) (w : World) (hR : IsRow .i64 w a len cap zs) :
    Calls Try.prog 6 #[.slice a len cap] w fun e w' => e = .returned (.bool true) ∧ Below w.heap.size w w' := by
  have hz := (zero_of_info Try.zeroCode).1
  have hfl : (fewZ len zs).length ≤ 400 := by unfold fewZ; rw [List.length_take]; omega
  have HFW : Hid (Calls Try.prog 8 #[.slice a len cap] w fun e w' => ∃ v, e = .returned v ∧ IR w' v (fewZ len zs) ∧ Below w.heap.size w w') := few4_any a len cap zs w hR
  clear hR
  generalize fewZ len zs = ys at *
  go_enter Try.func6, Try.ntmps6
  go_wp2_with fail
  refine (Hid.out HFW : Calls _ _ _ _ _).mono ?_
  rintro e w1 ⟨v, rfl, hI, hB1⟩
  by_cases he : errN ys = 0
  · obtain ⟨h320, h15, hfit⟩ := errN_zero he
    have hA15 := h15.all
    go_wp2_with fail
    refine (codes_ok v ys _ hI he).mono ?_
    rintro e w2 ⟨rfl, hC2, hb2⟩
    have hB2 : Below w.heap.size w w2 := hB1.trans (hb2.mono hB1.size)
    have hgc : w1.heap.size < w2.heap.size := hC2.lt
    have hLE : (toN ys).length = ys.length := toN_len ys
    rw [← hLE] at hC2 ⊢
    rw [← hLE] at h320
    generalize toN ys = ns at *
    generalize w1.heap.size = gc at *
    have HC2 : Hid (CR w2 gc ns.length (cdOf ns) (ln ns)) := hC2
    have HB2 : Hid (Below w.heap.size w w2) := hB2
    have hsz2 := hB2.size
    have HA15 : Hid (all15 ns) := hA15
    have HFT : Hid (fitB ns = true) := hfit
    have HAE := apart_end ns hfit
    have HUL := usedK_le ns
    have HPL := allP_le ns
    have HAE' : Hid (usedK ns ns.length = 0 ∨ (usedK ns ns.length = 1 ∧ allP ns ns.length = 16384) ∨ allP ns ns.length = 32768) := HAE
    have HUL' : Hid (∀ k, usedK ns k ≤ k) := HUL
    have HPL' : Hid (∀ k, allP ns k ≤ k * 16384) := HPL
    clear hC2 hB2 hb2 hB1 hI HFW hA15 hfit HAE HUL HPL h15 he hfl hLE
    go_wp2
    go_loopw [5, 6, 28] (fun p u i wr => ∃ k : Nat, k ≤ ns.length ∧ i = .int .i64 (k : Int) ∧ p = .int .i64 (allP ns k : Int) ∧ u = .int .i64 (usedK ns k : Int) ∧ Below w2.heap.size w2 wr) (fun _ _ i _ => ns.length - (intOf i).toNat)
    case atStart => exact ⟨0, by omega, rfl, rfl, rfl, Below.refl _ _⟩
    case round =>
      obtain ⟨k, hk, rfl, rfl, rfl, hB⟩ := hrel
      have hu := HUL'.out k
      have hp := HPL'.out k
      by_cases hlt : k < ns.length
      · have hCR := HC2.out.below hB
        have ce : wr.cell? ⟨gc, k * 2, none⟩ = some (.int .u32 (cdOf ns k : Int)) := by rw [hCR.cell (i := k * 2) (by omega), codeF_even]
        have co : wr.cell? ⟨gc, k * 2 + 1, none⟩ = some (.int .i64 (ln ns k : Int)) := by rw [hCR.cell (i := k * 2 + 1) (by omega), codeF_odd]
        obtain ⟨fz, fb⟩ := cdOf_fits ns HA15.out HFT.out k hlt
        have h15k := HA15.out.at k
        have HPs : Hid (allP ns (k + 1) = allP ns k + if 0 < ln ns k ∧ (fun _ => true) k = true then 2 ^ (15 - ln ns k) else 0) := rfl
        have HUs : Hid (usedK ns (k + 1) = usedK ns k + if 0 < ln ns k then 1 else 0) := rfl
        have hsi := shr_int (cdOf ns k) (ln ns k)
        rw [fz] at hsi
        have hki : (k : Int) < (ns.length : Int) := by omega
        have hki0 : (0 : Int) ≤ (k : Int) := by omega
        have hBs := hB.size
        have HB' : Hid (Below w2.heap.size w2 wr) := hB
        clear fz hCR hB
        by_cases hl0 : ln ns k = 0
        · have HPz : Hid (allP ns (k + 1) = allP ns k) := by unfold Hid; rw [HPs.out, if_neg (fun h => by omega)]; rfl
          have HUz : Hid (usedK ns (k + 1) = usedK ns k) := by unfold Hid; rw [HUs.out, if_neg (by omega)]; rfl
          rw [hl0] at co hsi
          clear HPs HUs hl0 h15k
          generalize cdOf ns k = X at *
          generalize allP ns k = P at *
          generalize usedK ns k = U at *
          go_wp2
          go_roundw
          case rel => exact ⟨k + 1, by omega, by go_num, by rw [HPz.out], by rw [HUz.out], HB'.out.alloc HB'.out.size _⟩
          case measure => simp [intOf]; omega
        · have hlp : 0 < ln ns k := by omega
          have HPz : Hid (allP ns (k + 1) = allP ns k + 2 ^ (15 - ln ns k)) := by unfold Hid; rw [HPs.out, if_pos ⟨hlp, rfl⟩]
          have HUz : Hid (usedK ns (k + 1) = usedK ns k + 1) := by unfold Hid; rw [HUs.out, if_pos hlp]
          have HNE : Hid (∀ j n, j < k → 0 < ln ns j → n = min (ln ns k) (ln ns j) → cdOf ns k / 2 ^ (ln ns k - n) ≠ cdOf ns j / 2 ^ (ln ns j - n)) := fun j n hj hp hn => apart_ne ns HA15.out k j n hlt (by omega) (by omega) hlp hp hn
          clear HPs HUs
          obtain ⟨l, hl⟩ : ∃ l, l = ln ns k := ⟨_, rfl⟩
          obtain ⟨X, hX⟩ : ∃ X, X = cdOf ns k := ⟨_, rfl⟩
          rw [← hl] at co hsi h15k hlp HPz HNE hl0
          rw [← hX] at ce hsi fb HNE
          clear hl hX
          have h14 : 2 ^ (15 - l) ≤ 16384 := Nat.pow_le_pow_right (n := 2) (i := 15 - l) (j := 14) (by decide) (by omega)
          have hli : (l : Int) ≤ 15 := by omega
          have hl1 : (0 : Int) ≤ 15 - (l : Int) := by omega
          have hl2 : (15 - (l : Int)).toNat = 15 - l := by omega
          have hp2 : (2 : Int) ^ (15 - l) = ((2 ^ (15 - l) : Nat) : Int) := by simp
          generalize 2 ^ (15 - l) = Q at *
          generalize allP ns k = P at *
          generalize usedK ns k = U at *
          have g0 : (wr.alloc (.cells #[.int .u32 (X : Int), .int .i64 (l : Int)] 58)).cell? ⟨wr.heap.size, 0, none⟩ = some (.int .u32 (X : Int)) := by rw [cell_of_row _ _ _ _ _ _ (heap_alloc_new wr _)]; rfl
          have g1 : (wr.alloc (.cells #[.int .u32 (X : Int), .int .i64 (l : Int)] 58)).cell? ⟨wr.heap.size, 1, none⟩ = some (.int .i64 (l : Int)) := by rw [cell_of_row _ _ _ _ _ _ (heap_alloc_new wr _)]; rfl
          have HBa : Hid (Below w2.heap.size w2 (wr.alloc (.cells #[.int .u32 (X : Int), .int .i64 (l : Int)] 58))) := HB'.out.alloc HB'.out.size _
          have hgd : wr.heap.size < (wr.alloc (.cells #[.int .u32 (X : Int), .int .i64 (l : Int)] 58)).heap.size := by rw [World.size_alloc]; omega
          have hkc : (k : Int) ≤ (ns.length : Int) := by omega
          go_wp2
          clear ce co
          generalize wr.alloc (.cells #[.int .u32 (X : Int), .int .i64 (l : Int)] 58) = W at *
          generalize wr.heap.size = gd at *
          go_loopw [64] (fun i wi => ∃ j : Nat, j ≤ k ∧ i = .int .i64 (j : Int) ∧ Below W.heap.size W wi) (fun i _ => k - (intOf i).toNat)
          case atStart => exact ⟨0, by omega, rfl, Below.refl _ _⟩
          case round =>
            obtain ⟨j, hj, rfl, hBi⟩ := hrel
            by_cases hjl : j < k
            · have hBw : Below w2.heap.size w2 wr := HBa.out.trans (hBi.mono HBa.out.size)
              have hCR := HC2.out.below hBw
              have ce : wr.cell? ⟨gc, j * 2, none⟩ = some (.int .u32 (cdOf ns j : Int)) := by rw [hCR.cell (i := j * 2) (by omega), codeF_even]
              have co : wr.cell? ⟨gc, j * 2 + 1, none⟩ = some (.int .i64 (ln ns j : Int)) := by rw [hCR.cell (i := j * 2 + 1) (by omega), codeF_odd]
              have e0 : wr.cell? ⟨gd, 0, none⟩ = some (.int .u32 (X : Int)) := by rw [hBi.cell (p := ⟨gd, 0, none⟩) hgd]; exact g0
              have e1 : wr.cell? ⟨gd, 1, none⟩ = some (.int .i64 (l : Int)) := by rw [hBi.cell (p := ⟨gd, 1, none⟩) hgd]; exact g1
              have hgdi : gd < wr.heap.size := Nat.lt_of_lt_of_le hgd hBi.size
              have hgci : gc < wr.heap.size := hCR.lt
              have hNE := HNE.out j (min l (ln ns j)) hjl
              have h15j := HA15.out.at j
              have HBn : Hid (∀ (o : Obj) (n : Nat), Below W.heap.size W ((wr.alloc o).drewN n) ∧ Below W.heap.size W (wr.alloc o)) := fun o n => ⟨below_drewN (hBi.alloc hBi.size o) n, hBi.alloc hBi.size o⟩
              have hji : (j : Int) < (k : Int) := by omega
              have hji0 : (0 : Int) ≤ (j : Int) := by omega
              clear hCR hBw hBi
              generalize cdOf ns j = Y at *
              generalize ln ns j = lj at *
              by_cases hlj : lj = 0
              · subst hlj
                have hmn : min (l : Int) 0 = 0 := by omega
                clear hNE
                go_wp2
                go_quiet (fail)
                go_wp2
                go_roundw
                case rel => exact ⟨j + 1, by omega, by go_num, (HBn.out _ _).1⟩
                case measure => simp [intOf]; omega
              · have hNE2 := hNE (by omega) rfl
                have hnj : (0 : Int) < (lj : Int) := by omega
                have hnjN : 0 < lj := by omega
                have hnl : (0 : Int) < (l : Int) := by omega
                clear hNE
                rcases Nat.lt_trichotomy l lj with hc | hc | hc
                · have hci : (l : Int) < (lj : Int) := by omega
                  have n2 : IntKind.i64.wrap ((lj : Int) - (l : Int)) = ((lj - l : Nat) : Int) := by rw [IntKind.wrap_i64]; omega
                  have hq : ((X : Int) == (Y : Int) / 2 ^ (lj - l)) = false := by
                    rw [shr_int]
                    simp only [beq_eq_false_iff_ne, ne_eq]
                    intro h
                    rw [Nat.min_eq_left (by omega), Nat.sub_self, Nat.pow_zero, Nat.div_one] at hNE2
                    exact hNE2 (by omega)
                  clear hNE2
                  go_wp2
                  go_quiet (fail)
                  go_wp2
                  go_roundw
                  case rel => exact ⟨j + 1, by omega, by go_num, (HBn.out _ _).1⟩
                  case measure => simp [intOf]; omega
                · subst hc
                  have hq : ((X : Int) == (Y : Int)) = false := by
                    simp only [beq_eq_false_iff_ne, ne_eq]
                    intro h
                    rw [Nat.min_self, Nat.sub_self, Nat.pow_zero, Nat.div_one, Nat.div_one] at hNE2
                    exact hNE2 (by omega)
                  clear hNE2
                  go_wp2
                  go_quiet (fail)
                  go_wp2
                  go_roundw
                  case rel => exact ⟨j + 1, by omega, by go_num, (HBn.out _ _).1⟩
                  case measure => simp [intOf]; omega
                · have hci : (lj : Int) < (l : Int) := by omega
                  have n2 : IntKind.i64.wrap ((l : Int) - (lj : Int)) = ((l - lj : Nat) : Int) := by rw [IntKind.wrap_i64]; omega
                  have hq : ((X : Int) / 2 ^ (l - lj) == (Y : Int)) = false := by
                    rw [shr_int]
                    simp only [beq_eq_false_iff_ne, ne_eq]
                    intro h
                    rw [Nat.min_eq_right (by omega), Nat.sub_self, Nat.pow_zero, Nat.div_one] at hNE2
                    exact hNE2 (by omega)
                  clear hNE2
                  go_wp2
                  go_quiet (fail)
                  go_wp2
                  go_roundw
                  case rel => exact ⟨j + 1, by omega, by go_num, (HBn.out _ _).1⟩
                  case measure => simp [intOf]; omega
            · obtain rfl : j = k := by omega
              have hBw : Below w2.heap.size w2 wr := HBa.out.trans (hBi.mono HBa.out.size)
              clear hBi
              go_wp2
              go_roundw
              case rel => exact ⟨j + 1, by omega, by go_num, by rw [HPz.out]; rfl, by rw [HUz.out]; rfl, hBw⟩
              case measure => simp [intOf]; omega
      · obtain rfl : k = ns.length := by omega
        have hBw : Below w.heap.size w wr := HB2.out.trans (hB.mono hsz2)
        have hAE := HAE'.out
        clear hB
        generalize allP ns ns.length = P at *
        generalize usedK ns ns.length = U at *
        go_wp2_with fail
        refine (awake4_any _).mono ?_
        rintro e w5 ⟨rfl, hb5⟩
        have hB5 := hBw.trans (hb5.mono hBw.size)
        clear hBw hb5
        rcases hAE with h0 | ⟨h1, h2⟩ | h3
        · subst h0
          go_wp2
          go_ret
          exact ⟨rfl, hB5⟩
        · subst h1 h2
          go_wp2
          go_ret
          exact ⟨rfl, hB5⟩
        · subst h3
          go_wp2
          all_goals
            go_ret
            exact ⟨rfl, hB5⟩
  · have hei : ((errN ys : Int) != 0) = true := by simp; omega
    go_wp2_with fail
    refine (codes_bad v ys _ hI hfl he).mono ?_
    rintro e w2 ⟨rfl, rfl⟩
    go_wp2_with fail
    refine (awake4_any _).mono ?_
    rintro e w5 ⟨rfl, hb5⟩
    have hB5 := hB1.trans (hb5.mono hB1.size)
    clear hB1 hb5 hI
    go_wp2
    go_ret
    exact ⟨rfl, hB5⟩
end Go.Proofs.Ytbkaeibjhnndfab
