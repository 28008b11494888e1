/- MatchLevels: the walk. -/
import Derived.Test.YtdmnmclhfeoghaaMatchK
import Derived.Laws.StructEq
import Derived.Deep.DeepCutAuto
namespace Go.Proofs.Ytdmnmclhfeoghaa
open Go.RowKit
set_option linter.unusedVariables false

set_option maxRecDepth 100000 in
set_option maxHeartbeats 2000000 in
theorem lawMatchLevels_walk (s0 : ByteArray) (w : World) (hs0 : s0.size ≤ 140737488351232) :
    Calls Try.prog 7 #[.string s0] w fun e w' => e = .returned (.bool true) ∧ Below w.heap.size w w' := by
  obtain ⟨s, hs⟩ : ∃ s, s = s0.extract 0 1500 := ⟨_, rfl⟩
  have hsz : s.size ≤ 1500 := by rw [hs, few_size]; exact Nat.min_le_left _ _
  have HS : Hid (s = s0.extract 0 1500) := hs
  have HS2 : Hid (s0.size ≤ 1500 → s = s0) := fun h => by rw [hs, few_all _ _ h]
  clear hs
  go_enter Try.func7, Try.ntmps7
  go_upto_if 13 with fail
  go_cut [0] (fun v wx => v = .string s ∧ wx = w)
  case first =>
    by_cases h : 1500 < s0.size
    · have hi : (1500 : Int) < (s0.size : Int) := by omega
      have hi2 : (1500 : Int) ≤ (s0.size : Int) := by omega
      go_wp2
      go_meet
      exact ⟨congrArg _ HS.out.symm, rfl⟩
    · have hi : ¬ (1500 : Int) < (s0.size : Int) := by omega
      go_wp2
      go_meet
      exact ⟨congrArg _ (HS2.out (by omega)).symm, rfl⟩
  case rest =>
    obtain ⟨rfl, rfl⟩ := hcut
    clear HS HS2
    go_wp2
    go_loopw [3] (fun l wr => ∃ k : Nat, k ≤ 10 ∧ l = .int .i64 (k : Int) ∧ Below wc.heap.size wc wr) (fun l _ => 10 - (intOf l).toNat)
    case atStart => exact ⟨0, by omega, rfl, Below.refl _ _⟩
    case round =>
      obtain ⟨k, hk, rfl, hB⟩ := hrel
      by_cases hlt : k < 10
      · have hki : (k : Int) ≤ 9 := by omega
        have HB : Hid (Below wc.heap.size wc wr) := hB
        clear hB
        have HT : Hid (∀ W, Calls Try.prog 19 #[.string s, .int .i64 (k : Int)] W fun e w' => ∃ v, e = .returned (.tuple #[v, .int .i64 0]) ∧ TR w' v (toks s k) ∧ Below W.heap.size W w') := fun W => tokens_ok s k W (by omega) (by omega)
        have hlen := toks_len s k
        have HEX : Hid (expF (s.size : Int) (toks s k) [] = (nb s, 0)) := toks_says s k (s.size : Int) (Int.le_refl _)
        generalize toks s k = ts at *
        go_wp2_with fail
        refine (HT.out _).mono ?_
        rintro e w1 ⟨v1, rfl, hT1, hb1⟩
        go_wp2_with fail
        refine (HT.out _).mono ?_
        rintro e w2 ⟨v2, rfl, hT2, hb2⟩
        have hT1b := hT1.below hb2
        have HX : Hid (Calls _ _ _ _ _) := expand_any v1 ts (s.size : Int) w2 hT1b (by omega) (by omega) (by omega)
        rw [HEX.out] at HX
        simp only [bs_nb] at HX
        go_wp2_with fail
        refine (Hid.out HX : Calls _ _ _ _ _).mono ?_
        rintro e w3 ⟨rfl, hb3⟩
        obtain ⟨a1, c1, rfl, hf1⟩ := (hT1b.below hb3).form
        obtain ⟨a2, c2, rfl, hf2⟩ := (hT2.below hb3).form
        have HF1 : Hid (∀ i t, ts[i]? = some t → ∃ g, a1 = some ⟨g, 0, none⟩ ∧ g < w3.heap.size ∧ w3.cell? ⟨g, i * 3, none⟩ = some (.int .u8 (t.b : Int)) ∧ w3.cell? ⟨g, i * 3 + 1, none⟩ = some (.int .i64 t.l) ∧ w3.cell? ⟨g, i * 3 + 2, none⟩ = some (.int .i64 t.d)) := hf1
        have HF2 : Hid (∀ i t, ts[i]? = some t → ∃ g, a2 = some ⟨g, 0, none⟩ ∧ g < w3.heap.size ∧ w3.cell? ⟨g, i * 3, none⟩ = some (.int .u8 (t.b : Int)) ∧ w3.cell? ⟨g, i * 3 + 1, none⟩ = some (.int .i64 t.l) ∧ w3.cell? ⟨g, i * 3 + 2, none⟩ = some (.int .i64 t.d)) := hf2
        have hB1 := HB.out.trans (hb1.mono HB.out.size)
        have hB2 := hB1.trans (hb2.mono hB1.size)
        have HB3 : Hid (Below wc.heap.size wc w3) := hB2.trans (hb3.mono hB2.size)
        clear HT HX hT1 hT2 hT1b hf1 hf2 hb1 hb2 hb3 hB1 hB2 HB HEX
        go_wp2
        go_loopw [63] (fun i wi => ∃ m : Nat, m ≤ ts.length ∧ i = .int .i64 (m : Int) ∧ ∃ q, wi = w3.drewN q) (fun i _ => ts.length - (intOf i).toNat)
        case atStart => exact ⟨0, by omega, rfl, 0, rfl⟩
        case round =>
          obtain ⟨m, hm, rfl, q, rfl⟩ := hrel
          by_cases hml : m < ts.length
          · obtain ⟨t, ht⟩ : ∃ t, ts[m]? = some t := ⟨_, List.getElem?_eq_getElem hml⟩
            obtain ⟨g1, rfl, _, d0, d1, d2⟩ := HF1.out m t ht
            obtain ⟨g2, rfl, _, e0, e1, e2⟩ := HF2.out m t ht
            have hmi : (m : Int) < (ts.length : Int) := by omega
            have hmi0 : (0 : Int) ≤ (m : Int) := by omega
            clear ht
            obtain ⟨tb, tl, td⟩ := t
            simp only at d0 d1 d2 e0 e1 e2
            go_wp2
            go_quiet (fail)
            go_wp2
            go_roundw
            case rel => exact ⟨m + 1, by omega, by go_num, q + nq, rfl⟩
            case measure => simp [intOf]; omega
          · go_wp2
            go_roundw
            case rel => exact ⟨k + 1, by omega, by go_num, below_drewN HB3.out q⟩
            case measure => simp [intOf]; omega
      · have hki : ¬ (k : Int) ≤ 9 := by omega
        go_wp2_with fail
        refine (awake5_any _).mono ?_
        rintro e w5 ⟨rfl, hb5⟩
        have hB5 := hB.trans (hb5.mono hB.size)
        go_wp2
        go_ret
        exact ⟨rfl, hB5⟩
end Go.Proofs.Ytdmnmclhfeoghaa
