/- Contracts: retain's Check, keepLast. -/
import Derived.Test.YtkfaoldpcgokiaaRetV
import Derived.BigQuiet
import Derived.Deep.QuietTactic
namespace Go.Proofs.Ytkfaoldpcgokiaa
open Go.RowKit
set_option linter.unusedVariables false
set_option linter.unusedSimpArgs false

set_option maxRecDepth 100000 in
set_option maxHeartbeats 1000000 in
theorem check_neg (p : Pol) (tv v : Value) (w : World) (h : p.neg) :
    Calls Try.prog 12 #[polV p tv, v] w fun e w' => e = .returned (.int .i64 1) ∧ Below w.heap.size w w' := by
  unfold polV
  obtain ⟨a, d, k, m, tg⟩ := p
  have HB : Hid (Below w.heap.size w (w.alloc (.cells #[.int .i64 a, .int .i64 d, .int .i64 k, .int .i64 m, tv] 24))) := (Below.refl _ w).alloc (Nat.le_refl _) _
  simp only [Pol.neg] at h
  rcases (by omega : a < 0 ∨ (0 ≤ a ∧ d < 0) ∨ (0 ≤ a ∧ 0 ≤ d ∧ k < 0) ∨ (0 ≤ a ∧ 0 ≤ d ∧ 0 ≤ k ∧ m < 0)) with h1 | ⟨h1, h2⟩ | ⟨h1, h2, h3⟩ | ⟨h1, h2, h3, h4⟩
  all_goals clear h
  all_goals go_enter Try.func12, Try.ntmps12
  all_goals go_wp2
  all_goals go_ret
  all_goals exact ⟨rfl, HB.out⟩
set_option maxRecDepth 100000 in
set_option maxHeartbeats 2000000 in
theorem check_times (p : Pol) (tv v : Value) (l : List Sn) (w : World) (h : ¬ p.neg) (hV : SV w w.heap.size v l) (hl : l.length ≤ 1000000) :
    Calls Try.prog 12 #[polV p tv, v] w fun e w' => e = .returned (.int .i64 (tmE l)) ∧ Below w.heap.size w w' := by
  unfold polV
  obtain ⟨a, d, k, m, tg⟩ := p
  simp only [Pol.neg] at h
  obtain ⟨h1, h2, h3, h4⟩ : 0 ≤ a ∧ 0 ≤ d ∧ 0 ≤ k ∧ 0 ≤ m := by omega
  clear h
  obtain ⟨W1, hW1⟩ : ∃ W1, W1 = w.alloc (.cells #[.int .i64 a, .int .i64 d, .int .i64 k, .int .i64 m, tv] 24) := ⟨_, rfl⟩
  have HB1 : Hid (Below w.heap.size w W1) := by rw [hW1]; exact (Below.refl _ w).alloc (Nat.le_refl _) _
  have HV : Hid (SV w w.heap.size v l) := hV
  obtain ⟨a0, cap, rfl, _, _⟩ := hV
  obtain ⟨n, hn⟩ : ∃ n, n = l.length := ⟨_, rfl⟩
  have HN : Hid (n = l.length) := hn
  rw [← hn] at hl HV
  rw [← hn]
  clear hn
  have hzs := zeroSn
  go_enter Try.func12, Try.ntmps12
  go_wp2
  rw [← hW1]
  clear hW1
  go_loopw [28, 5] (fun i ah wr => ∃ (j : Nat) (t : Int), j ≤ n ∧ i = .int .i64 (j : Int) ∧ ah = .int .i64 t ∧ tmB t (l.drop j) = tmB 0 l ∧ Below w.heap.size w wr) (fun i _ _ => n - (intOf i).toNat)
  case atStart => exact ⟨0, 0, Nat.zero_le _, rfl, rfl, rfl, HB1.out⟩
  case round =>
    obtain ⟨j, t, hj, rfl, rfl, htm, hb⟩ := hrel
    have HB : Hid (Below w.heap.size w wr) := hb
    have HT : Hid (tmB t (l.drop j) = tmB 0 l) := htm
    clear hb htm HB1
    by_cases hlt : j < n
    · obtain ⟨x, hx⟩ : ∃ x, l[j]? = some x := ⟨_, List.getElem?_eq_getElem (by rw [← HN.out]; exact hlt)⟩
      have hlti : (j : Int) < (n : Int) := by omega
      obtain ⟨g, o, rfl, hgB, hg, -, hcap, c0, c1, c2⟩ := (HV.out.below HB.out).at hx
      have HD : Hid (l.drop j = x :: l.drop (j + 1)) := by
        unfold Hid
        rw [List.drop_eq_getElem_cons (by rw [← HN.out]; exact hlt)]
        congr 1
        rw [List.getElem?_eq_getElem (by rw [← HN.out]; exact hlt)] at hx
        injection hx
      have HB2 : Hid (Below w.heap.size w (wr.alloc (.cells #[.string (mkB x.i), .int .i64 x.t, .string (mkB x.g)] 39))) := HB.out.alloc HB.out.size _
      have HE : Hid (tmB 0 l = (decide (t ≤ x.t ∧ x.t ≤ 253402300799) && tmB x.t (l.drop (j + 1)))) := by unfold Hid; rw [← HT.out, HD.out, tmB]
      generalize x.t = xt at *
      by_cases ha : t ≤ xt
      · by_cases hm : xt ≤ 253402300799
        · have HE2 : Hid (tmB xt (l.drop (j + 1)) = tmB 0 l) := by unfold Hid; rw [HE.out, decide_eq_true ⟨ha, hm⟩, Bool.true_and]
          go_wp2
          go_roundw
          case rel => exact ⟨j + 1, xt, by omega, by go_num, rfl, HE2.out, HB2.out⟩
          case measure => simp [intOf]; omega
        · have HE2 : Hid (tmB 0 l = false) := by unfold Hid; rw [HE.out, decide_eq_false (fun h => hm h.2), Bool.false_and]
          go_wp2
          go_ret
          exact ⟨by rw [tmE_no HE2.out]; rfl, HB2.out⟩
      · have HE2 : Hid (tmB 0 l = false) := by unfold Hid; rw [HE.out, decide_eq_false (fun h => ha h.1), Bool.false_and]
        go_wp2
        go_ret
        exact ⟨by rw [tmE_no HE2.out]; rfl, HB2.out⟩
    · have hlti : ¬ (j : Int) < (n : Int) := by omega
      have HE2 : Hid (tmB 0 l = true) := by unfold Hid; rw [← HT.out, List.drop_eq_nil_of_le (by rw [← HN.out]; omega)]; rfl
      go_wp2
      go_ret
      exact ⟨by rw [tmE_yes HE2.out]; rfl, HB.out⟩
theorem check_any (p : Pol) (tv v : Value) (l : List Sn) (w : World) (hV : SV w w.heap.size v l) (hl : l.length ≤ 1000000) :
    Calls Try.prog 12 #[polV p tv, v] w fun e w' => e = .returned (.int .i64 (errR p l)) ∧ Below w.heap.size w w' := by
  unfold errR
  by_cases h : p.neg
  · rw [if_pos h]; exact check_neg p tv v w h
  · rw [if_neg h]; exact check_times p tv v l w h hV hl
set_option maxRecDepth 100000 in
set_option maxHeartbeats 1000000 in
theorem last_any (g n cap : Nat) (b : Nat → Bool) (c : Int) (w : World) (hR : BR w g n b) (hn : n ≤ cap) (hn2 : n ≤ 1000) (hc : 0 ≤ c) (hc2 : c ≤ 9223372036854775807) :
    Calls Try.prog 14 #[.slice (some ⟨g, 0, none⟩) n cap, .int .i64 c] w fun e w' => e = .returned (.tuple #[]) ∧ BR w' g n (fun i => b i || decide ((n : Int) - i ≤ c)) ∧ Below g w w' := by
  have HR : Hid (BR w g n b) := hR
  clear hR
  obtain ⟨s, hs⟩ : ∃ s : Nat, s = (max ((n : Int) - c) 0).toNat := ⟨_, rfl⟩
  have HS : Hid (∀ i : Nat, s ≤ i ↔ (n : Int) - i ≤ c) := fun i => by omega
  have hsn : s ≤ n := by omega
  have hwr : IntKind.i64.wrap ((n : Int) - c) = (n : Int) - c := by rw [IntKind.wrap_i64]; omega
  have HSS : Hid (s = (max ((n : Int) - c) 0).toNat) := hs
  clear hs
  rcases (by omega : 0 ≤ (n : Int) - c ∨ (n : Int) - c < 0) with h | h
  all_goals go_enter Try.func14, Try.ntmps14
  all_goals go_wp2
  all_goals (
    go_loopw [4] (fun i wr => ∃ j : Nat, s ≤ j ∧ j ≤ n ∧ i = .int .i64 (j : Int) ∧ BR wr g n (fun i => b i || decide (s ≤ i ∧ i < j)) ∧ Below g w wr) (fun i _ => n - (intOf i).toNat)
    case atStart => exact ⟨s, Nat.le_refl _, hsn, congrArg (Value.int .i64) (by have := HSS.out; omega), HR.out.eq (fun i _ => by rw [decide_eq_false (by omega), Bool.or_false]), Below.refl _ _⟩
    case round =>
      obtain ⟨j, hsj, hj, rfl, hr, hb⟩ := hrel
      have HRR : Hid (BR wr g n (fun i => b i || decide (s ≤ i ∧ i < j))) := hr
      have HB : Hid (Below g w wr) := hb
      clear hr hb
      by_cases hlt : j < n
      · have hlti : (j : Int) < (n : Int) := by omega
        have c0 := HRR.out.cell j hlt
        have f0 := HRR.out.fz j
        have hg := HRR.out.lt
        have HR2 : Hid (BR (wr.setCell ⟨g, j, none⟩ (.bool true)) g n (fun i => b i || decide (s ≤ i ∧ i < j + 1))) := HRR.out.set j _ (fun i hi => by
          by_cases e : i = j
          · subst e; rw [if_pos rfl, decide_eq_true ⟨hsj, Nat.lt_succ_self _⟩, Bool.or_true]
          · rw [if_neg e]; congr 1; exact decide_eq_decide.2 (by omega))
        have HB2 : Hid (Below g w (wr.setCell ⟨g, j, none⟩ (.bool true))) := HB.out.setCell (by simp) _
        generalize (b j || decide (s ≤ j ∧ j < j)) = bj at c0
        go_wp2
        go_roundw
        case rel => exact ⟨j + 1, by omega, by omega, by go_num, HR2.out, HB2.out⟩
        case measure => simp [intOf]; omega
      · have hlti : ¬ (j : Int) < (n : Int) := by omega
        have HR2 : Hid (BR wr g n (fun i => b i || decide ((n : Int) - i ≤ c))) := HRR.out.eq (fun i hi => by
          congr 1; exact decide_eq_decide.2 (by rw [← HS.out i]; omega))
        go_wp2
        go_end0
        exact ⟨rfl, HR2.out, HB.out⟩)
end Go.Proofs.Ytkfaoldpcgokiaa
