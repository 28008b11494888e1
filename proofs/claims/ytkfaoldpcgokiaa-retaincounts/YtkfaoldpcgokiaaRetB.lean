/- Contract: retain's keepSpans. -/
import Derived.Test.YtkfaoldpcgokiaaRetA
namespace Go.Proofs.Ytkfaoldpcgokiaa
open Go.RowKit
set_option linter.unusedVariables false
set_option linter.unusedSimpArgs false

set_option maxRecDepth 100000 in
set_option maxHeartbeats 1000000 in
theorem spans_any (fn : Nat) (f : Sn → Nat) (g n cap : Nat) (b : Nat → Bool) (v : Value) (l : List Sn) (c : Int) (w : World) (hR : BR w g n b) (hn : n = l.length) (hnc : n ≤ cap) (hn2 : n ≤ 1000) (hc : 0 ≤ c) (hc2 : c ≤ 9223372036854775807)
    (hV : SV w g v l) (hF : ∀ x ∈ l, ∀ W : World, Calls Try.prog fn #[.int .i64 x.t] W fun e W' => e = .returned (.int .i64 (f x : Nat)) ∧ W' = W) (hr : (l.map f).Pairwise (· ≤ ·)) (hE : ∀ (t : Int) (W : World), (callFunc fn #[.int .i64 t]).run Try.prog W = .ok (.enter fn #[.int .i64 t]) W) :
    Calls Try.prog 16 #[.slice (some ⟨g, 0, none⟩) n cap, v, .int .i64 c, .func (.func fn) #[] #[]] w fun e w' => e = .returned (.tuple #[]) ∧ BR w' g n (fun i => b i || kAt c f l i) ∧ Below g w w' := by
  have HR : Hid (BR w g n b) := hR
  have HV : Hid (SV w g v l) := hV
  obtain ⟨a0, vc, rfl, _, _⟩ := hV
  have HN : Hid (n = l.length) := hn
  rw [← hn] at HV
  rw [← hn]
  have HF : Hid (∀ x ∈ l, ∀ W : World, Calls Try.prog fn #[.int .i64 x.t] W fun e W' => e = .returned (.int .i64 (f x : Nat)) ∧ W' = W) := hF
  have HP : Hid ((l.map f).Pairwise (· ≤ ·)) := hr
  have hw1 : IntKind.i64.wrap ((n : Int) - 1) = (n : Int) - 1 := by rw [IntKind.wrap_i64]; omega
  clear hn hR hF hr
  go_enter Try.func16, Try.ntmps16
  go_wp2
  go_loopw [9, 2, 8] (fun i ct mt wr => ∃ (j : Nat) (q : Int), j ≤ n ∧ 0 ≤ q ∧ i = .int .i64 ((j : Int) - 1) ∧ ct = .int .i64 q ∧ (0 < q → mt = .int .i64 (metI ((l.drop j).map f))) ∧ (∃ u, mt = .int .i64 u) ∧ q = c - (dv ((l.drop j).map f) : Nat) ∧ BR wr g n (fun i => b i || (decide (j ≤ i) && kAt c f l i)) ∧ Below g w wr) (fun i _ _ _ => (intOf i + 1).toNat)
  case atStart =>
    refine ⟨n, c, Nat.le_refl _, hc, rfl, rfl, fun _ => ?_, ⟨_, rfl⟩, ?_, HR.out.eq (fun i hi => by rw [decide_eq_false (by omega), Bool.false_and, Bool.or_false]), Below.refl _ _⟩
    · rw [List.drop_eq_nil_of_le (by rw [← HN.out]; exact Nat.le_refl _)]; rfl
    · rw [List.drop_eq_nil_of_le (by rw [← HN.out]; exact Nat.le_refl _)]; simp [dv]
  case round =>
    obtain ⟨j, q, hj, hq, rfl, rfl, hmt, ⟨u, rfl⟩, hqd, hr, hb⟩ := hrel
    have HRR : Hid (BR wr g n (fun i => b i || (decide (j ≤ i) && kAt c f l i))) := hr
    have HB : Hid (Below g w wr) := hb
    have HM : Hid (0 < q → Value.int .i64 u = .int .i64 (metI ((l.drop j).map f))) := hmt
    have HQ : Hid (q = c - (dv ((l.drop j).map f) : Nat)) := hqd
    clear hr hb hmt
    have hq2 : q ≤ 9223372036854775807 := by omega
    clear hqd
    by_cases h0 : j = 0
    · subst h0
      have HR2 : Hid (BR wr g n (fun i => b i || kAt c f l i)) := HRR.out.eq (fun i hi => by rw [decide_eq_true (Nat.zero_le _), Bool.true_and])
      have hz : ¬ (0 : Int) ≤ ((0 : Nat) : Int) - 1 := by omega
      go_wp2
      go_end0
      exact ⟨rfl, HR2.out, HB.out⟩
    · have hz : (0 : Int) ≤ (j : Int) - 1 := by omega
      by_cases hq0 : 0 < q
      · obtain ⟨i, rfl⟩ : ∃ i, j = i + 1 := ⟨j - 1, by omega⟩
        have hi1 : (((i + 1 : Nat) : Int)) - 1 = (i : Int) := by omega
        have hin : i < n := hj
        obtain ⟨x, hx⟩ : ∃ x, l[i]? = some x := ⟨_, List.getElem?_eq_getElem (by rw [← HN.out]; omega)⟩
        have hxm : x ∈ l := List.mem_of_getElem? hx
        obtain ⟨gg, o, rfl, hgB, hg, -, hcap, c0, c1, c2⟩ := (HV.out.below HB.out).at hx
        have HD : Hid (l.drop i = x :: l.drop (i + 1)) := by
          unfold Hid
          rw [List.drop_eq_getElem_cons (by rw [← HN.out]; omega)]
          congr 1
          rw [List.getElem?_eq_getElem (by rw [← HN.out]; omega)] at hx
          injection hx
        have hpw : (f x :: (l.drop (i + 1)).map f).Pairwise (· ≤ ·) := by
          have := HP.out.sublist (List.Sublist.map f (List.drop_sublist i l))
          rw [HD.out, List.map_cons] at this; exact this
        have hmi := met_iff hpw
        have hu : u = metI ((l.drop (i + 1)).map f) := by have := HM.out hq0; injection this
        rw [← hu] at hmi
        clear hpw hx hu
        have HC := HF.out x hxm wr
        have HI : Hid (((f x : Nat) : Int) = u ↔ f x ∈ (l.drop (i + 1)).map f) := hmi
        have HK : Hid (kAt c f l i = (decide (f x ∉ (l.drop (i + 1)).map f) && decide ((dv ((l.drop (i + 1)).map f) : Int) < c))) := by unfold Hid kAt; rw [HD.out, List.map_cons, kS]
        have HDV : Hid (dv ((l.drop i).map f) = if f x ∈ (l.drop (i + 1)).map f then dv ((l.drop (i + 1)).map f) else dv ((l.drop (i + 1)).map f) + 1) := by unfold Hid; rw [HD.out, List.map_cons, dv]
        have HME : Hid (metI ((l.drop i).map f) = (f x : Nat)) := by unfold Hid; rw [HD.out]; rfl
        have hini : (i : Int) < (n : Int) := by omega
        have hii : (0 : Int) ≤ (i : Int) := by omega
        rw [hi1]
        generalize f x = fx at *
        clear hmi hz
        by_cases he : (fx : Int) = u
        · have hmem := HI.out.1 he
          have HK2 : Hid (kAt c f l i = false) := by unfold Hid; rw [HK.out, decide_eq_false (fun h => h hmem), Bool.false_and]
          have HR2 : Hid (BR wr g n (fun j => b j || (decide (i ≤ j) && kAt c f l j))) := HRR.out.eq (fun j hj => by
            by_cases e : j = i
            · subst e; rw [HK2.out]; simp
            · rw [show decide (i ≤ j) = decide (i + 1 ≤ j) from decide_eq_decide.2 (by omega)])
          have HDV2 : Hid (q = c - (dv ((l.drop i).map f) : Nat)) := by unfold Hid; rw [HDV.out, if_pos hmem]; exact HQ.out
          have hbe : ((fx : Int) == u) = true := by rw [beq_iff_eq]; exact he
          have HE : Hid ((fx : Int) = u) := he
          clear he hmem
          go_wp2_with fail
          refine HC.mono ?_
          rintro e w1 ⟨rfl, rfl⟩
          go_wp2
          go_roundw
          case rel => exact ⟨i, q, by omega, hq, by go_num, rfl, fun _ => by rw [HME.out, HE.out], ⟨u, rfl⟩, HDV2.out, HR2.out, HB.out⟩
          case measure => simp [intOf]
        · have hmem : fx ∉ (l.drop (i + 1)).map f := fun h => he (HI.out.2 h)
          have HK2 : Hid (kAt c f l i = true) := by unfold Hid; rw [HK.out, decide_eq_true hmem, Bool.true_and]; apply decide_eq_true; have := HQ.out; omega
          have HDV2 : Hid (q - 1 = c - (dv ((l.drop i).map f) : Nat)) := by unfold Hid; rw [HDV.out, if_neg hmem]; have := HQ.out; omega
          have cc := HRR.out.cell i hin
          have f0 := HRR.out.fz i
          have hgl := HRR.out.lt
          have HR2 : Hid (BR (wr.setCell ⟨g, i, none⟩ (.bool true)) g n (fun j => b j || (decide (i ≤ j) && kAt c f l j))) := HRR.out.set i _ (fun j hj => by
            by_cases e : j = i
            · subst e; rw [HK2.out, if_pos rfl]; simp
            · rw [if_neg e, show decide (i ≤ j) = decide (i + 1 ≤ j) from decide_eq_decide.2 (by omega)])
          have HB2 : Hid (Below g w (wr.setCell ⟨g, i, none⟩ (.bool true))) := HB.out.setCell (by simp) _
          have hbe : ((fx : Int) == u) = false := by rw [beq_eq_false_iff_ne]; exact he
          generalize (b i || (decide (i + 1 ≤ i) && kAt c f l i)) = bi at cc
          clear he hmem
          go_wp2_with fail
          refine HC.mono ?_
          rintro e w1 ⟨rfl, rfl⟩
          go_wp2
          go_roundw
          case rel => exact ⟨i, q - 1, by omega, by omega, by go_num, by go_num, fun _ => by rw [HME.out], ⟨_, rfl⟩, HDV2.out, HR2.out, HB2.out⟩
          case measure => simp [intOf]
      · have HR2 : Hid (BR wr g n (fun i => b i || kAt c f l i)) := HRR.out.eq (fun i hi => by
          by_cases e : j ≤ i
          · rw [decide_eq_true e, Bool.true_and]
          · rw [decide_eq_false e, Bool.false_and]
            congr 1
            unfold kAt
            have hx : l.drop i = l[i]'(by rw [← HN.out]; exact hi) :: l.drop (i + 1) := List.drop_eq_getElem_cons _
            rw [hx, List.map_cons, kS]
            have hdd := dv_drops (l.map f) (show i + 1 ≤ j by omega)
            rw [← List.map_drop, ← List.map_drop] at hdd
            rw [Bool.and_eq_false_iff]
            right
            apply decide_eq_false
            have := HQ.out
            omega)
        go_wp2
        go_end0
        exact ⟨rfl, HR2.out, HB.out⟩
end Go.Proofs.Ytkfaoldpcgokiaa
