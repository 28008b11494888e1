/- Contracts of the document's List, Number, Degree and Fit of layer 9. -/
import Derived.Test.YtnfemofighgenaaOBit
import Derived.Test.YtnfemofighgenaaPolyL
import Derived.Test.YtnfemofighgenaaPolyA
namespace Go.Proofs.Ytnfemofighgenaa
open Go.RowKit
set_option linter.unusedVariables false

theorem mod2_beq (q : Nat) : ((q : Int) % 2 == 1) = (q % 2 == 1) := by
  rcases Nat.mod_two_eq_zero_or_one q with e | e
  · rw [e, show (q : Int) % 2 = 0 by omega]; rfl
  · rw [e, show (q : Int) % 2 = 1 by omega]; rfl
set_option maxRecDepth 100000 in
set_option maxHeartbeats 1000000 in
theorem rlist_any (p : Nat) (w : World) (hp : p < 18446744073709551616) :
    Calls Try.prog 17 #[.int .u64 p] w fun e w' => ∃ v, e = .returned v ∧ OB w' w.heap.size v (bo p) ∧ Below w.heap.size w w' := by
  obtain ⟨i0, hi, hz0, hz1, hz2⟩ := info_parts Try.infoBo
  have hbl := bl64 hp
  go_enter Try.func17, Try.ntmps17
  go_wp2
  go_loopw [0, 3] (fun x v wr => ∃ (q : Nat) (L : List Bool), q < 18446744073709551616 ∧ Hid (L ++ bo q = bo p) ∧ x = .int .u64 q ∧ OB wr w.heap.size v L ∧ Below w.heap.size w wr) (fun x _ _ => (intOf x).toNat)
  case atStart => exact ⟨p, [], hp, rfl, rfl, ⟨_, _, rfl, World.ownsRow_made _ _ _ (Nat.le_refl _) (by decide) rfl⟩, (Below.refl _ w).alloc (Nat.le_refl _) _⟩
  case round =>
    obtain ⟨q, L, hq, HL, rfl, hO, hB⟩ := hrel
    have hLl : L.length ≤ 64 := by
      have := congrArg List.length HL.out
      rw [List.length_append, bo_len p] at this; omega
    by_cases hz : q = 0
    · subst hz
      have HE : Hid (L = bo p) := by rw [← HL.out, bo_zero, List.append_nil]; exact rfl
      go_wp2
      go_ret
      exact ⟨_, rfl, HE.out ▸ hO, hB⟩
    · have hpos : 0 < q := by omega
      have hpos' : (0 : Int) < q := by omega
      have HN : Hid _ := bo_step HL.out hz
      have HV : Hid (_ = _) := mod2_beq q
      have hBs := hB.size
      obtain ⟨g, cap, rfl, ho⟩ := hO
      clear hz HL
      go_wp2_with (at_builtin; refine wpList_append_own _ rfl _ _ 34 rfl w.heap.size 4 i0 (.bool false) 1 1 Try.underlying34 hi hz0 hz1 hz2 rfl (by decide) _ _ _ rfl (ho.alloc _) ⟨wr.heap.size, 0, none⟩ 1 1 [.bool ((q : Int) % 2 == 1)] rfl rfl (cell_one_new _ _ _) ?c2 ?c3 ?c4 ?c5 ?_)
      case c2 => first | rfl | (intro u hu; simp at hu; subst hu; rfl)
      case c3 => unfold maxLen; omega
      case c4 => omega
      case c5 => simp; omega
      intro v' w2 hown' hgrow' hne'
      rw [HV.out] at hown'
      obtain ⟨hO2, hB2⟩ := OB.push hBs hB ho _ hown' hgrow' hne'
      clear hown' hgrow' hne' ho hB
      go_wp2
      go_roundw
      case rel => exact ⟨q / 2, _, by omega, HN, by go_num, hO2, hB2⟩
      case measure => simp [intOf]; omega
set_option maxRecDepth 100000 in
set_option maxHeartbeats 1000000 in
theorem rnumber_any (v : Value) (L : List Bool) (w : World) (hR : RB w v L) (hL : L.length ≤ 64) :
    Calls Try.prog 39 #[v] w fun e w' => e = .returned (.int .u64 (nb L : Nat)) ∧ w' = w := by
  obtain ⟨g, cap, rfl, hg, hc⟩ := hR
  have HC : Hid _ := hc
  clear hc
  go_enter Try.func39, Try.ntmps39
  go_wp2
  go_loop [3, 4] (fun n i => ∃ k : Nat, k ≤ L.length ∧ i = .int .i64 ((k : Int) - 1) ∧ n = .int .u64 (nb (L.drop k) : Nat)) (fun _ i => (intOf i + 1).toNat)
  case atStart => exact ⟨L.length, Nat.le_refl _, rfl, by rw [List.drop_length]; rfl⟩
  case round =>
    obtain ⟨k, hk, rfl, rfl⟩ := hrel
    cases k with
    | zero =>
      rw [List.drop_zero]
      go_wp2
      go_ret
      exact ⟨rfl, rfl⟩
    | succ i =>
      have hc := HC.out i (by omega)
      have HN : Hid (_ = _) := nb_drop L i (by omega)
      have hl : nb (L.drop i) < 18446744073709551616 := Nat.lt_of_lt_of_le (nb_lt _) (show 2 ^ (L.drop i).length ≤ 2 ^ 64 from Nat.pow_le_pow_right (by decide) (by rw [List.length_drop]; omega))
      rw [HN.out] at hl
      have e1 : (((i + 1 : Nat) : Int) - 1) = (i : Int) := by omega
      have i1 : (i : Int) < (L.length : Int) := by omega
      rw [e1]
      clear e1
      cases hb : L.getD i false
      · rw [hb] at hc hl HN
        simp only [Bool.toNat_false, Nat.add_zero] at hl HN
        generalize nb (L.drop (i + 1)) = T at *
        go_wp2
        go_round
        case rel => exact ⟨i, by omega, rfl, by rw [HN.out]; go_num⟩
        case measure => simp [intOf]
      · rw [hb] at hc hl HN
        simp only [Bool.toNat_true] at hl HN
        generalize nb (L.drop (i + 1)) = T at *
        go_wp2
        go_round
        case rel => exact ⟨i, by omega, rfl, by rw [HN.out]; go_num⟩
        case measure => simp [intOf]
set_option maxRecDepth 100000 in
set_option maxHeartbeats 400000 in
theorem rdegree_any (p : Nat) (w : World) (hp : p < 18446744073709551616) :
    Calls Try.prog 11 #[.int .u64 p] w fun e w' => e = .returned (.int .i64 ((bl p : Int) - 1)) ∧ Below w.heap.size w w' := by
  have hbl := bl64 hp
  have HE : Hid (_ = _) := bo_len p
  go_enter Try.func11, Try.ntmps11
  go_wp2_with fail
  refine (rlist_any p _ hp).mono ?_
  rintro e w1 ⟨v, rfl, ⟨g, cap, rfl, ho⟩, hB⟩
  rw [HE.out]
  clear ho
  go_wp2
  go_ret
  exact ⟨rfl, hB⟩
set_option maxRecDepth 100000 in
set_option maxHeartbeats 400000 in
theorem rfit_any (m : Nat) (w : World) (hm : m < 18446744073709551616) :
    Calls Try.prog 15 #[.int .u64 m] w fun e w' => e = .returned (.bool (fitP m)) ∧ Below w.heap.size w w' := by
  have hb := bl64 hm
  by_cases h1 : 2 ≤ bl m
  · have hd1 : decide (1 ≤ (bl m : Int) - 1) = true := by simp; omega
    have HE : Hid (fitP m = decide ((bl m : Int) - 1 ≤ 62)) := by
      unfold Hid fitP
      rw [decide_eq_true h1, Bool.true_and]
      apply decide_eq_decide.2; omega
    go_enter Try.func15, Try.ntmps15
    go_wp2_with fail
    refine (rdegree_any m _ hm).mono ?_
    rintro e w1 ⟨rfl, hB1⟩
    go_wp2_with fail
    refine (rdegree_any m _ hm).mono ?_
    rintro e w2 ⟨rfl, hB2⟩
    have hB := hB1.trans (hB2.mono hB1.size)
    go_wp2
    go_ret
    rw [HE.out]; exact ⟨rfl, hB⟩
  · have hd1 : decide (1 ≤ (bl m : Int) - 1) = false := by simp; omega
    have HE : Hid (_ = _) := (fitP_no m).2 (fun h => h1 h.1)
    go_enter Try.func15, Try.ntmps15
    go_wp2_with fail
    refine (rdegree_any m _ hm).mono ?_
    rintro e w1 ⟨rfl, hB1⟩
    go_wp2
    go_ret
    rw [HE.out]; exact ⟨rfl, hB1⟩
end Go.Proofs.Ytnfemofighgenaa
