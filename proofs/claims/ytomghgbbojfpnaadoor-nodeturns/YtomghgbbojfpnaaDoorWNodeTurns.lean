/- The walk of NodeTurns. -/
import Derived.Test.YtomghgbbojfpnaaDoorNodQ
import Derived.Test.YtomghgbbojfpnaaDoorAwk12
namespace Go.Proofs.YtomghgbbojfpnaaDoor
open Go.RowKit
set_option linter.unusedVariables false
set_option linter.unusedSimpArgs false

theorem ON.shape {w : World} {B : Nat} {v : Value} {l : List Nd} (h : ON w B v l) : ∃ a c, v = .slice a l.length c ∧ l.length ≤ c ∧ c ≤ 9223372036854775807 := by
  obtain ⟨vs, h1, h2, h3⟩ := h
  rcases h2.2 with ⟨rfl, h0⟩ | ⟨k, cap, cur, rfl, g2, g3, g4, g5, _⟩
  · exact ⟨none, 0, by rw [h0], by omega, by omega⟩
  · exact ⟨_, _, rfl, g4, by unfold maxLen at g5; omega⟩
theorem ON.own {w : World} {B : Nat} {v : Value} {l : List Nd} (h : ON w B v l) (hn : 0 < l.length) : ∃ g c, v = .slice (some ⟨g, 0, none⟩) l.length c ∧ B ≤ g ∧ g < w.heap.size ∧ l.length ≤ c ∧ c ≤ 9223372036854775807 ∧ (∀ j, j < l.length → w.frozen? ⟨g, j, none⟩ = false) ∧ ∀ j, j < l.length → ∃ u, w.cell? ⟨g, j, none⟩ = some u ∧ NO w B u (l.getD j .non) := by
  obtain ⟨vs, h1, h2, h3⟩ := h
  have h2' := h2
  rcases h2.2 with ⟨rfl, h0⟩ | ⟨k, cap, cur, rfl, g2, g3, g4, g5, _⟩
  · omega
  · refine ⟨k, cap, rfl, g2, lt_of_heap g3, g4, by unfold maxLen at g5; omega, fun j hj => frozen_of_row _ _ _ _ _ g3, fun j hj => ⟨vs.getD j .nilIface, ?_, h3 j hj⟩⟩
    rw [World.ownsRow.cellAt h2' j (by omega), List.getD_eq_getElem?_getD, List.getElem?_eq_getElem (by omega)]; rfl
theorem fit_iface {w : World} {B : Nat} {u : Value} {n : Nd} (h : NO w B u n) (hf : unfitN n = 0) : ∃ T y, u = .iface T y := by
  rcases h.form with h1 | h1
  · exact h1
  · cases n with
    | fol => exact ⟨_, _, h⟩
    | pla => obtain ⟨y, h1, _⟩ := h; exact ⟨_, _, h1⟩
    | sym => exact ⟨_, _, h⟩
    | ptr => exact absurd hf (by unfold unfitN; simp [kindN])
    | non => exact absurd hf (by unfold unfitN; simp [kindN])
set_option maxRecDepth 100000 in
set_option maxHeartbeats 4000000 in
theorem lawNodeTurns_walk (a0 : Option Addr) (len0 cap0 : Nat) (z0 : List Rc) (a1 : Int) (W : World) (b0 : IsRecs W a0 len0 cap0 z0) (b1 : -9223372036854775808 ≤ a1 ∧ a1 ≤ 9223372036854775807) (hL : Lay11 W) :
    Calls Tryd.prog 7 #[.slice a0 len0 cap0, .int .i64 a1] W fun e w' => e = .returned (.bool true) ∧ Below W.heap.size W w' := by
  have HNB : Hid (∀ n ∈ allN z0, NB n) := allN_NB b0
  have hlen := allN_len z0
  have HI : Hid (IsRecs W a0 len0 cap0 z0) := b0
  have HL : Hid (Lay11 W) := hL
  have HA : Hid (∀ w', Below W.heap.size W w' → Calls Tryd.prog 18 #[.slice a0 len0 cap0] w' fun e w'' => ∃ v, e = .returned v ∧ ON w'' w'.heap.size v (allN z0) ∧ Below w'.heap.size w' w'') := fun w' hb => all_any z0 a0 len0 cap0 w' (b0.below hb)
  have HK : Hid (∀ w', Below W.heap.size W w' → Calls Tryd.prog 12 #[] w' fun e w'' => e = .returned (.bool true) ∧ Below w'.heap.size w' w'') := fun w' hb => awake12_any w' (hL.below hb)
  clear b0 hL
  generalize allN z0 = L at *
  obtain ⟨n, HN⟩ : ∃ n, Hid (n = L.length) := ⟨_, rfl⟩
  rw [← HN.out] at hlen
  go_enter Tryd.func7, Tryd.ntmps7
  go_wp2_with fail
  refine (HA.out _ (Below.refl _ _)).mono ?_
  rintro e w1 ⟨v1, rfl, hO1, hb1⟩
  obtain ⟨va, vc, hv, hvc, hvc2⟩ := hO1.shape
  have HO1 : Hid (ON w1 W.heap.size v1 L) := hO1
  have HB1 : Hid (Below W.heap.size W w1) := hb1
  clear hO1 hb1
  rw [← HN.out] at hv hvc
  subst hv
  have HC : Hid (Calls _ _ _ _ _) := check_any L _ w1 HO1.out.ln HNB.out (HL.out.below HB1.out) (by have := HN.out; omega)
  unfold Hid at HC
  by_cases hck : checkN L = 0
  case neg =>
    generalize checkN L = ck at *
    have hb : (ck == 0) = false := beq_eq_false_iff_ne.2 hck
    have hb2 : (ck != 0) = true := by rw [bne, hb]; rfl
    go_wp2_with fail
    refine (HC : Calls _ _ _ _ _).mono ?_
    rintro e w2 ⟨rfl, hb2⟩
    have HB2 : Hid (Below W.heap.size W w2) := belN HB1.out hb2
    clear hb2
    go_wp2_with fail
    refine (HK.out _ HB2.out).mono ?_
    rintro e w3 ⟨rfl, hb3⟩
    have HB3 : Hid (Below W.heap.size W w3) := belN HB2.out hb3
    go_wp2
    go_ret
    exact ⟨rfl, HB3.out⟩
  have HCK : Hid (checkN L = 0) := hck
  rw [hck] at HC
  clear hck
  go_wp2_with fail
  refine (HC : Calls _ _ _ _ _).mono ?_
  rintro e w2 ⟨rfl, hb2⟩
  have HB2 : Hid (Below W.heap.size W w2) := belN HB1.out hb2
  have HO2 : Hid (ON w2 W.heap.size (.slice va n vc) L) := HO1.out.below hb2
  clear hb2 HC HO1 HB1
  by_cases hn0 : n = 0
  · have hni : ((n : Int) == 0) = true := by simp [hn0]
    go_wp2_with fail
    refine (HK.out _ HB2.out).mono ?_
    rintro e w3 ⟨rfl, hb3⟩
    have HB3 : Hid (Below W.heap.size W w3) := belN HB2.out hb3
    go_wp2
    go_ret
    exact ⟨rfl, HB3.out⟩
  have hnp : 0 < n := by omega
  obtain ⟨m, HM⟩ : ∃ m, Hid (n = m + 1) := ⟨n - 1, by unfold Hid; omega⟩
  have hsub : (n : Int) - 1 = (m : Int) := by have := HM.out; omega
  have hm1 : m ≤ vc := by have := HM.out; omega
  have hm2 : (m : Int) ≤ (vc : Int) := by omega
  have hm3 : m ≤ n := by have := HM.out; omega
  have HE : Hid (Calls _ _ _ _ _) := encode_any (L.take m) _ w2 (HO2.out.ln.cut m (by have := HN.out; omega)) (fun x hx => HNB.out x (List.mem_of_mem_take hx)) (HL.out.below HB2.out) (by rw [List.length_take]; omega)
  unfold Hid at HE
  rw [check_take HCK.out m] at HE
  generalize encR (L.take m) = sm at *
  go_wp2_with fail
  refine (HE : Calls _ _ _ _ _).mono ?_
  rintro e w3 ⟨rfl, hb3⟩
  have HB3 : Hid (Below W.heap.size W w3) := belN HB2.out hb3
  clear hb3 HE HO2 HB2
  by_cases hi0 : a1 < 0
  · go_wp2_with fail
    refine (HK.out _ HB3.out).mono ?_
    rintro e w4 ⟨rfl, hb4⟩
    have HB4 : Hid (Below W.heap.size W w4) := belN HB3.out hb4
    go_wp2
    go_ret
    exact ⟨rfl, HB4.out⟩
  by_cases hi1 : (m : Int) ≤ a1
  · go_wp2_with fail
    refine (HK.out _ HB3.out).mono ?_
    rintro e w4 ⟨rfl, hb4⟩
    have HB4 : Hid (Below W.heap.size W w4) := belN HB3.out hb4
    go_wp2
    go_ret
    exact ⟨rfl, HB4.out⟩
  obtain ⟨i, rfl⟩ : ∃ i : Nat, a1 = (i : Int) := ⟨a1.toNat, by omega⟩
  have him : i < m := by omega
  go_wp2_with fail
  refine (HA.out _ HB3.out).mono ?_
  rintro e w4 ⟨v4, rfl, hO4, hb4⟩
  have HB4 : Hid (Below W.heap.size W w4) := belN HB3.out hb4
  obtain ⟨g, gc, hv, hgB, hgw, hgc, hgc2, hfz, hcl⟩ := hO4.own (by have := HN.out; omega)
  have HO4 : Hid (ON w4 w3.heap.size v4 L) := hO4
  rw [← HN.out] at hv hgc hfz hcl
  subst hv
  have hfits := (check_unfit HCK.out).2
  obtain ⟨x, hx, hxN⟩ := hcl i (by have := HM.out; omega)
  obtain ⟨y, hy, hyN⟩ := hcl (i + 1) (by have := HM.out; omega)
  have f1 := hfz i (by have := HM.out; omega)
  have f2 := hfz (i + 1) (by have := HM.out; omega)
  obtain ⟨T1, x1, rfl⟩ := fit_iface hxN (hfits _ (nd_mem (by have := HM.out; have := HN.out; omega)))
  obtain ⟨T2, y1, rfl⟩ := fit_iface hyN (hfits _ (nd_mem (by have := HM.out; have := HN.out; omega)))
  have HG : Hid (W.heap.size ≤ g) := by have := HB3.out.size; unfold Hid; omega
  have hin : i < n := by omega
  have hin1 : i + 1 < n := by have := HM.out; omega
  have hini : (i : Int) < (n : Int) := by omega
  have hin1i : (i : Int) + 1 < (n : Int) := by omega
  clear hO4 hb4 hfz hcl hfits hxN hyN
  obtain ⟨v3, c3⟩ := cell?_setCell_some (p := ⟨g, i, none⟩) (x := .iface T2 y1) hy
  have hG5 : w4.grownBy (((w4.setCell ⟨g, i, none⟩ (.iface T2 y1)).setCell ⟨g, i + 1, none⟩ (.iface T1 x1)).drew) (some g) := gdrew (gset (gset (grefl w4 _) _ _) _ _)
  have HLN : Hid (LN (((w4.setCell ⟨g, i, none⟩ (.iface T2 y1)).setCell ⟨g, i + 1, none⟩ (.iface T1 x1)).drew) (.slice (some ⟨g, 0, none⟩) n gc) (swN L i)) := by
    refine HO4.out.swap (by have := HN.out; omega) HN.out hx hy hG5 (fun j => ?_)
    show ((w4.setCell ⟨g, i, none⟩ (.iface T2 y1)).setCell ⟨g, i + 1, none⟩ (.iface T1 x1)).cell? ⟨g, j, none⟩ = _
    by_cases e1 : j = i + 1
    · subst e1
      rw [if_pos rfl, World.cell?_setCell_same _ _ _ c3]
    · rw [if_neg e1, World.cell?_setCell_other _ _ _ _ (by intro h; injection h with _ h2 _; omega)]
      by_cases e2 : j = i
      · subst e2
        rw [if_pos rfl, World.cell?_setCell_same _ _ _ hx]
      · rw [if_neg e2, World.cell?_setCell_other _ _ _ _ (by intro h; injection h with _ h2 _; omega)]
  have HB5 : Hid (Below W.heap.size W (((w4.setCell ⟨g, i, none⟩ (.iface T2 y1)).setCell ⟨g, i + 1, none⟩ (.iface T1 x1)).drew)) := grown_below HB4.out hG5 HB4.out.size HG.out
  have HBD : Hid (checkN (swN L i) ≠ 0) := swN_bad HCK.out i (by have := HN.out; omega)
  have HE2 : Hid (Calls _ _ _ _ _) := encode_any (swN L i) _ _ HLN.out (fun x hx => HNB.out x (swN_mem i (by have := HN.out; omega) hx)) (HL.out.below HB5.out) (by rw [swN_len]; have := HN.out; omega)
  unfold Hid at HE2
  rw [show encR (swN L i) = [] by unfold encR; rw [if_neg HBD.out]] at HE2
  have hck2 : checkN (swN L i) ≠ 0 := HBD.out
  generalize checkN (swN L i) = ck at *
  have hcb : (ck == 0) = false := beq_eq_false_iff_ne.2 hck2
  have hcb2 : (ck != 0) = true := by rw [bne, hcb]; rfl
  clear hG5 HLN HBD
  go_wp2
  go_region
  generalize ((w4.setCell ⟨g, i, none⟩ (.iface T2 y1)).setCell ⟨g, i + 1, none⟩ (.iface T1 x1)).drew = w5 at *
  clear c3 hx hy f1 f2
  have hml := mkB_list2 []
  go_wp2_with fail
  refine (HE2 : Calls _ _ _ _ _).mono ?_
  rintro e w6 ⟨rfl, hb6⟩
  have HB6 : Hid (Below W.heap.size W w6) := belN HB5.out hb6
  clear hb6 HE2
  go_wp2_with fail
  refine (HK.out _ HB6.out).mono ?_
  rintro e w7 ⟨rfl, hb7⟩
  have HB7 : Hid (Below W.heap.size W w7) := belN HB6.out hb7
  go_wp2
  go_ret
  exact ⟨rfl, HB7.out⟩
end Go.Proofs.YtomghgbbojfpnaaDoor
