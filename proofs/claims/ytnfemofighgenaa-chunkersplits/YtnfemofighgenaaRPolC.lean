/- Contract of the document's Rest of layer 9. -/
import Derived.Test.YtnfemofighgenaaRPolB
import Derived.Deep.RegionHeld
namespace Go.Proofs.Ytnfemofighgenaa
open Go.RowKit
set_option linter.unusedVariables false
set_option linter.unusedSimpArgs false

theorem Try.undBo : Try.prog.underlying 34 = some (.slice (Try.prog.elem 34)) := by kernel_rfl
theorem Try.szBo (W : World) : (sizeOf (Try.prog.elem 34)).run Try.prog W = .ok 1 W := by kernel_rfl
theorem cut_hiB {g N cap m : Nat} (h : m ≤ cap) (W : World) : (Instr.slice 34 (.slice (some ⟨g, 0, none⟩) N cap) none (some (.int .i64 (m : Int))) none).run Try.prog W = .ok (.slice (some ⟨g, 0, none⟩) m cap) W := by
  rw [run_slice_h (ht := Try.undBo) (h0 := by omega) (h2 := by omega), Try.szBo]
  simp [Result.andThen, sliced, Addr.add]
theorem OB.cap {w : World} {B g n cap : Nat} {L : List Bool} (h : OB w B (.slice (some ⟨g, 0, none⟩) n cap) L) : L.length ≤ cap := by
  obtain ⟨g', cap', e, ho⟩ := h
  simp only [Value.slice.injEq, Option.some.injEq, Addr.mk.injEq, and_true, true_and] at e
  obtain ⟨rfl, rfl, rfl⟩ := e
  rcases ho.2 with ⟨q, _⟩ | ⟨g2, c2, cur, e2, _, _, hc, _⟩
  · simp at q
  · simp only [Value.slice.injEq, Option.some.injEq, Addr.mk.injEq, and_true, true_and] at e2
    omega
theorem RB.take {w : World} {g n cap k : Nat} {L : List Bool} (h : RB w (.slice (some ⟨g, 0, none⟩) n cap) L) (hk : k ≤ L.length) : RB w (.slice (some ⟨g, 0, none⟩) k cap) (L.take k) := by
  obtain ⟨g', cap', e, hg, hc⟩ := h
  simp only [Value.slice.injEq, Option.some.injEq, Addr.mk.injEq, and_true, true_and] at e
  obtain ⟨rfl, rfl, rfl⟩ := e
  refine ⟨g, cap, by rw [List.length_take, Nat.min_eq_left hk], hg, fun i hi => ?_⟩
  rw [List.length_take] at hi
  rw [hc i (by omega)]
  simp only [List.getD_eq_getElem?_getD, List.getElem?_take]
  rw [if_pos (by omega)]
set_option maxRecDepth 100000 in
set_option maxHeartbeats 4000000 in
theorem rrest_any (va : Value) (a : List Bool) (m : Nat) (w : World) (hA : RB w va a) (hal : a.length ≤ 10000) (hm : m < 18446744073709551616) (h0 : m ≠ 0) :
    Calls Try.prog 16 #[va, .int .u64 m] w fun e w' => e = .returned (.int .u64 (pm (nb a) m : Nat)) ∧ Below w.heap.size w w' := by
  obtain ⟨i0, hi, hz0, hz1, hz2⟩ := info_parts Try.infoBo
  obtain ⟨ga, ca, rfl, hga, hca⟩ := hA
  have HN : Hid (∀ j u, (cbs a)[j]? = some u → (w.alloc (.cells #[] 4)).cell? ((⟨ga, 0, none⟩ : Addr).add j) = some u) := fun j u hu => by
    have hj : j < a.length := by have := (List.getElem?_eq_some_iff.1 hu).1; rwa [cbs_len] at this
    rw [Addr.add_lit, Nat.zero_add, World.cell?_alloc_lt _ _ _ hga, hca j hj, ← cbs_at _ _ hj]; exact hu
  have HL : Hid ((cbs a).length = a.length * 1) := by unfold Hid; rw [cbs_len, Nat.mul_one]
  have H1 : Hid (∀ u ∈ cbs a, u.oneCell' = true) := cbs_one a
  clear hca
  have hmb := bl64 hm
  have hmp := bl_pos.2 h0
  generalize hAN : a.length = N at *
  go_enter Try.func16, Try.ntmps16
  go_wp2_with (at_builtin; refine wpList_append_own _ rfl _ _ 34 rfl w.heap.size 4 i0 (.bool false) 1 1 Try.underlying34 hi hz0 hz1 hz2 rfl (by decide) _ 0 [] rfl (World.ownsRow_made _ _ _ (Nat.le_refl _) (by decide) rfl) ⟨ga, 0, none⟩ N ca (cbs a) rfl HL.out HN.out H1.out ?c3 ?c4 ?c5 ?_)
  case c3 => unfold maxLen; omega
  case c4 => omega
  case c5 => simp
  intro v1 w1 hown1 hgrow1 hne1
  obtain ⟨⟨g, cap, rfl, ho⟩, hB1⟩ := copied hown1 hgrow1 hne1
  have hO1 : OB w1 w.heap.size (.slice (some ⟨g, 0, none⟩) a.length cap) a := ⟨g, cap, rfl, ho⟩
  have hcap := hO1.cap
  rw [hAN] at hcap
  have hgl := hO1.lt
  clear hown1 hgrow1 hne1 HN HL H1 ho hz0 hz1 hz2 hi
  go_wp2_with fail
  refine (rlist_any m _ hm).mono ?_
  rintro e w2 ⟨v, rfl, hOM, hB2⟩
  obtain ⟨gd, cd, rfl, hgd, hcd⟩ := hOM.rb
  have hgdl := hOM.lt
  have hO2 : OB w2 w.heap.size (.slice (some ⟨g, 0, none⟩) a.length cap) a := hO1.below hB2
  have hBB := hB1.trans (hB2.mono hB1.size)
  have hgg : g ≠ gd := by omega
  clear hOM hO1 hB1 hB2
  rw [bo_len] at hcd ⊢
  have HCD : Hid (∀ i, i < bl m → w2.cell? ⟨gd, i, none⟩ = some (.bool ((bo m).getD i false))) := hcd
  clear hcd
  rw [hAN] at hO2 ⊢
  go_wp2
  go_loopw [7] (fun i wr => ∃ (k : Nat) (L : List Bool), k ≤ N ∧ i = .int .i64 ((k : Int) - 1) ∧ L.length = N ∧ Hid (Cg m (nb L) (nb a)) ∧ Hid (bl (nb L) ≤ k) ∧ Hid (OB wr w.heap.size (.slice (some ⟨g, 0, none⟩) L.length cap) L) ∧ (∀ i, i < bl m → wr.cell? ⟨gd, i, none⟩ = some (.bool ((bo m).getD i false))) ∧ Below w.heap.size w wr ∧ g < wr.heap.size) (fun i _ => (intOf i + 1).toNat)
  case atStart => exact ⟨N, a, Nat.le_refl _, rfl, hAN, Cg.refl _ _, by have := nb_bl a; rwa [hAN] at this, by rw [hAN]; exact hO2, HCD.out, hBB, hO2.lt.2⟩
  case round =>
    clear hO2 HCD hBB hgd
    obtain ⟨k, L, hk, rfl, hLN, HC, HBL, HO, hcd, hB, hgw⟩ := hrel
    have HCD : Hid _ := hcd
    clear hcd
    by_cases hlt : bl m ≤ k
    · obtain ⟨i, rfl⟩ : ∃ i, k = i + 1 := ⟨k - 1, by omega⟩
      have e1 : (((i + 1 : Nat) : Int) - 1) = (i : Int) := by omega
      rw [e1]
      clear e1
      have hiN : (i : Int) < (N : Int) := by omega
      have hge : (bl m : Int) - 1 ≤ (i : Int) := by omega
      have c1 := HO.out.cell i (by omega)
      have HT : Hid (_ = _) := nb_bit L i
      cases hb : L.getD i false
      · rw [hb] at c1
        have HB2 : Hid (bl (nb L) ≤ i) := round_no HBL.out (by rw [HT.out]; exact hb)
        go_wp2
        go_roundw
        case rel => exact ⟨i, L, by omega, rfl, hLN, HC, HB2, HO, HCD.out, hB, hgw⟩
        case measure => simp [intOf]
      · rw [hb] at c1
        obtain ⟨s, hs⟩ : ∃ s, s = i + 1 - bl m := ⟨_, rfl⟩
        obtain ⟨r1, r2⟩ := round_yes h0 hlt HBL.out (by rw [HT.out]; exact hb)
        rw [← hs] at r1 r2
        have HR1 : Hid _ := r1
        have HR2 : Hid _ := r2.trans HC.out
        have hsi : (i : Int) - (bl m : Int) + 1 = (s : Int) := by omega
        have HSI : Hid (s + bl m = i + 1) := by show _ = _; omega
        have hsN : s + bl m ≤ N := by omega
        clear hs r1 r2 HBL HC
        go_wp2
        go_loopw [31] (fun j wr => ∃ (x : Nat) (L2 : List Bool), x ≤ bl m ∧ j = .int .i64 (x : Int) ∧ L2.length = N ∧ Hid (nb L2 = restAt m (nb L) s x) ∧ Hid (OB wr w.heap.size (.slice (some ⟨g, 0, none⟩) L2.length cap) L2) ∧ (∀ i, i < bl m → wr.cell? ⟨gd, i, none⟩ = some (.bool ((bo m).getD i false))) ∧ Below w.heap.size w wr ∧ g < wr.heap.size) (fun j _ => bl m - (intOf j).toNat)
        case atStart => exact ⟨0, L, by omega, rfl, hLN, by show _ = _; rw [restAt_start], HO, HCD.out, hB, hgw⟩
        case round =>
          clear HO HCD hB hgw c1
          obtain ⟨x, L2, hx, rfl, hLN2, HR, HO, hcd, hB, hgw⟩ := hrel
          have HCD : Hid _ := hcd
          clear hcd
          by_cases hlx : x < bl m
          · have hxi : (x : Int) < (bl m : Int) := by omega
            have c2 := HCD.out x hlx
            cases hbx : (bo m).getD x false
            · rw [hbx] at c2
              have HE : Hid (nb L2 = restAt m (nb L) s (x + 1)) := by rw [restAt_no m _ s x hbx]; exact HR
              go_wp2
              go_roundw
              case rel => exact ⟨x + 1, L2, by omega, by go_num, hLN2, HE, HO, HCD.out, hB, hgw⟩
              case measure => simp [intOf]; omega
            · rw [hbx] at c2
              have hkm : s + x < L2.length := by omega
              have c3 := HO.out.cell (s + x) hkm
              have f3 := HO.out.frozen (s + x)
              have HS : Hid _ := HO.out.set (s + x) (!L2.getD (s + x) false)
              have HB2 : Hid (Below w.heap.size w (wr.setCell ⟨g, s + x, none⟩ (.bool (!L2.getD (s + x) false)))) := hB.setCell (by simp; omega) _
              have HE : Hid (nb (L2.set (s + x) (!L2.getD (s + x) false)) = restAt m (nb L) s (x + 1)) := by rw [restAt_yes m _ s x hbx, ← HR.out]; exact nb_set L2 (s + x) hkm
              have HCD2 : Hid (∀ i, i < bl m → (wr.setCell ⟨g, s + x, none⟩ (.bool (!L2.getD (s + x) false))).cell? ⟨gd, i, none⟩ = some (.bool ((bo m).getD i false))) := fun i hi => by
                rw [World.cell?_setCell_far _ _ _ _ (by simp; omega)]; exact HCD.out i hi
              have HG : Hid (g < (wr.setCell ⟨g, s + x, none⟩ (.bool (!L2.getD (s + x) false))).heap.size) := by unfold Hid; simpa using hgw
              have hLN3 : (L2.set (s + x) (!L2.getD (s + x) false)).length = N := by rw [List.length_set, hLN2]
              have hkN : (s : Int) + (x : Int) < (N : Int) := by omega
              have hk0 : (0 : Int) ≤ (s : Int) + (x : Int) := by omega
              have t1 : ((s : Int) + (x : Int)).toNat = s + x := by omega
              generalize L2.set (s + x) (!L2.getD (s + x) false) = L3 at *
              clear HR HO HCD
              go_wp2
              go_roundw
              case rel => exact ⟨x + 1, L3, by omega, by go_num, hLN3, HE, HS, HCD2.out, HB2.out, HG.out⟩
              case measure => simp [intOf]; omega
          · have HE : Hid (nb L2 = nb L ^^^ m * 2 ^ s) := by rw [← restAt_end m _ s x (by omega)]; exact HR
            have HE1 : Hid (bl (nb L2) ≤ i) := by rw [HE.out]; exact HR1
            have HE2 : Hid (Cg m (nb L2) (nb a)) := by rw [HE.out]; exact HR2
            go_wp2
            go_roundw
            case rel => exact ⟨i, L2, by omega, rfl, hLN2, HE2, HE1, HO, HCD.out, hB, hgw⟩
            case measure => simp [intOf]
    · have HE : Hid (nb L = pm (nb a) m) := rest_done h0 HC.out HBL.out (by omega)
      have hgt : ¬ ((bl m : Int) - 1 ≤ (k : Int) - 1) := by omega
      have hRB := HO.out.rb
      rw [hLN] at hRB
      clear HC HCD
      by_cases hc : bl m < N
      · have hci : (bl m : Int) < (N : Int) := by omega
        have hT := RB.take hRB (k := bl m) (by omega)
        have HTE : Hid (nb (L.take (bl m)) = nb L) := nb_take_bl L (bl m) (by have := HBL.out; omega)
        have hTl : (L.take (bl m)).length ≤ 64 := by rw [List.length_take]; omega
        have hs := fun W => cut_hiB (g := g) (N := N) (cap := cap) (m := bl m) (by omega) W
        clear hRB
        go_wp2_with (go_at_call 39; refine (rnumber_any _ (L.take (bl m)) _ hT hTl).mono ?_; rintro e w' ⟨rfl, rfl⟩)
        go_ret
        rw [HTE.out, HE.out]; exact ⟨rfl, hB⟩
      · have hci : ¬ (bl m : Int) < (N : Int) := by omega
        have hLl : L.length ≤ 64 := by omega
        go_wp2_with (go_at_call 39; refine (rnumber_any _ L _ hRB hLl).mono ?_; rintro e w' ⟨rfl, rfl⟩)
        go_ret
        rw [HE.out]; exact ⟨rfl, hB⟩
end Go.Proofs.Ytnfemofighgenaa
