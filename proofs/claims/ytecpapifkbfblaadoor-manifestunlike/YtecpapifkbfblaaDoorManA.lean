/- Contracts: inForm, Check. -/
import Derived.Test.YtecpapifkbfblaaDoorManM
namespace Go.Proofs.YtecpapifkbfblaaDoor
open Go.RowKit
set_option linter.unusedVariables false

theorem five_cell {w : World} {b : Nat} {v0 v1 v2 v3 v4 : Value} {ty : TypeId} (h : w.heap[b]? = some (.cells #[v0, v1, v2, v3, v4] ty (0, 0))) : (w.cell? ⟨b, 0, none⟩ = some v0 ∧ w.cell? ⟨b, 1, none⟩ = some v1 ∧ w.cell? ⟨b, 2, none⟩ = some v2 ∧ w.cell? ⟨b, 3, none⟩ = some v3 ∧ w.cell? ⟨b, 4, none⟩ = some v4) ∧ (w.frozen? ⟨b, 0, none⟩ = false ∧ w.frozen? ⟨b, 1, none⟩ = false ∧ w.frozen? ⟨b, 2, none⟩ = false ∧ w.frozen? ⟨b, 3, none⟩ = false ∧ w.frozen? ⟨b, 4, none⟩ = false) := by
  refine ⟨⟨?_, ?_, ?_, ?_, ?_⟩, frozen_of_row _ _ _ _ _ h, frozen_of_row _ _ _ _ _ h, frozen_of_row _ _ _ _ _ h, frozen_of_row _ _ _ _ _ h, frozen_of_row _ _ _ _ _ h⟩ <;> (rw [cell_of_row _ _ _ _ _ _ h]; rfl)
theorem form_t {m : Mf} (h : ¬ (0 ≤ m.t ∧ m.t ≤ 253402300799)) : m.form = false := by
  unfold Mf.form
  by_cases h0 : 0 ≤ m.t
  · have : ¬ m.t ≤ 253402300799 := fun h1 => h ⟨h0, h1⟩
    simp [this]
  · simp [h0]
theorem form_g {m : Mf} (h : (m.g.isEmpty || nameL m.g) = false) : m.form = false := by unfold Mf.form; simp only [h]; simp
theorem form_p {m : Mf} (h : (m.p.isEmpty || isNm m.p) = false) : m.form = false := by unfold Mf.form; simp only [h]; simp
theorem form_s {m : Mf} (h0 : 0 ≤ m.t) (h1 : m.t ≤ 253402300799) (h2 : (m.g.isEmpty || nameL m.g) = true) (h3 : (m.p.isEmpty || isNm m.p) = true) : m.form = filB m.s m.ch := by
  unfold Mf.form; simp only [h2, h3]; simp [h0, h1]
set_option maxRecDepth 100000 in
set_option maxHeartbeats 1000000 in
theorem inForm_any (m : Mf) (v : Value) (w : World) (hF : m.fit) (hT : TX w v m.ch) (hL : Lay11 w) :
    Calls Tryd.prog 39 #[mfV m v] w fun e w' => e = .returned (.bool m.form) ∧ Below w.heap.size w w' := by
  have HFT := form_t (m := m)
  have HFG := form_g (m := m)
  have HFP := form_p (m := m)
  have HFS := form_s (m := m)
  obtain ⟨⟨t0, t1⟩, hg, hp, ⟨s0, s1⟩, hn, hc⟩ := hF
  obtain ⟨t, g, p, s, ch⟩ := m
  simp only at *
  unfold mfV
  generalize Mf.form ⟨t, g, p, s, ch⟩ = R at *
  obtain ⟨a, cap, rfl, hcap, hf⟩ := id hT
  have HNM : Hid (∀ W, Lay11 W → Calls Tryd.prog 52 #[.string (mkB g)] W fun e w' => e = .returned (.bool (nameL g)) ∧ Below W.heap.size W w') := fun W h => name_any g W (by omega) h
  have HIS : Hid (∀ W, Calls Tryd.prog 53 #[.string (mkB p)] W fun e w' => e = .returned (.bool (isNm p)) ∧ Below W.heap.size W w') := fun W => isd_big p W hp
  have HFI : Hid (∀ W, TX W (.slice a ch.length cap) ch → Calls Tryd.prog 54 #[.int .i64 s, .slice a ch.length cap] W fun e w' => e = .returned (.bool (filB s ch)) ∧ w' = W) := fun W h => filled_any s ch _ W h ⟨s0, s1⟩ hn hc
  obtain ⟨X, hX⟩ : ∃ X, X = w.alloc (.cells #[.int .i64 t, .string (mkB g), .string (mkB p), .int .i64 s, .slice a ch.length cap] 37) := ⟨_, rfl⟩
  have hbX : Below w.heap.size w X := by rw [hX]; exact (Below.refl _ w).alloc (Nat.le_refl _) _
  have hXH : X.heap[w.heap.size]? = some (.cells #[.int .i64 t, .string (mkB g), .string (mkB p), .int .i64 s, .slice a ch.length cap] 37 (0, 0)) := by rw [hX]; exact heap_alloc_new w _
  have hXL : w.heap.size < X.heap.size := (Array.getElem?_eq_some_iff.1 hXH).1
  have HTX : Hid (TX X (.slice a ch.length cap) ch) := hT.below hbX
  have HLY : Hid (Lay11 X) := hL.below hbX
  have HFIN : Hid (∀ w', Below X.heap.size X w' → Below w.heap.size w w') := fun w' h => hbX.trans (h.mono hbX.size)
  have HCE : Hid (∀ w', Below X.heap.size X w' → _) := fun w' h => (five_cell ((h.block _ hXL).trans hXH)).1
  have hge : ((mkB g).toList == []) = g.isEmpty := by rw [show (mkB g).toList = g from ByteArray.toList_eq _]; cases g <;> rfl
  have hpe : ((mkB p).toList == []) = p.isEmpty := by rw [show (mkB p).toList = p from ByteArray.toList_eq _]; cases p <;> rfl
  clear hf hc hT hL hXH hXL
  generalize filB s ch = fb at *
  generalize nameL g = nb at *
  generalize isNm p = ib at *
  generalize g.isEmpty = ge at *
  generalize p.isEmpty = pe at *
  generalize mkB g = G at *
  generalize mkB p = P at *
  have hX0 : Below X.heap.size X X := Below.refl _ _
  by_cases h0 : 0 ≤ t
  · by_cases h1 : t ≤ 253402300799
    · cases ge
      · cases nb
        · have HE : Hid (R = false) := HFG rfl
          clear HFT HFG HFP HFS
          go_enter Tryd.func39, Tryd.ntmps39
          go_upto_region 1 with fail
          rw [← hX]
          clear hX hbX
          obtain ⟨c0, c1, c2, c3, c4⟩ := HCE.out _ hX0
          go_wp2_with fail
          refine (HNM.out _ HLY.out).mono ?_
          rintro e w1 ⟨rfl, hb1⟩
          clear c0 c1 c2 c3 c4
          obtain ⟨c0, c1, c2, c3, c4⟩ := HCE.out _ hb1
          go_wp2
          go_ret
          exact ⟨by rw [HE.out]; rfl, HFIN.out _ hb1⟩
        · cases pe
          · cases ib
            · have HE : Hid (R = false) := HFP rfl
              clear HFT HFG HFP HFS
              go_enter Tryd.func39, Tryd.ntmps39
              go_upto_region 1 with fail
              rw [← hX]
              clear hX hbX
              obtain ⟨c0, c1, c2, c3, c4⟩ := HCE.out _ hX0
              go_wp2_with fail
              refine (HNM.out _ HLY.out).mono ?_
              rintro e w1 ⟨rfl, hb1⟩
              clear c0 c1 c2 c3 c4
              obtain ⟨c0, c1, c2, c3, c4⟩ := HCE.out _ hb1
              go_wp2_with fail
              refine (HIS.out _).mono ?_
              rintro e w2 ⟨rfl, hb2⟩
              have hX2 : Below X.heap.size X w2 := hb1.trans (hb2.mono hb1.size)
              clear c0 c1 c2 c3 c4
              obtain ⟨c0, c1, c2, c3, c4⟩ := HCE.out _ hX2
              go_wp2
              go_ret
              exact ⟨by rw [HE.out]; rfl, HFIN.out _ hX2⟩
            · have HE : Hid (R = fb) := HFS h0 h1 rfl rfl
              clear HFT HFG HFP HFS
              go_enter Tryd.func39, Tryd.ntmps39
              go_upto_region 1 with fail
              rw [← hX]
              clear hX hbX
              obtain ⟨c0, c1, c2, c3, c4⟩ := HCE.out _ hX0
              go_wp2_with fail
              refine (HNM.out _ HLY.out).mono ?_
              rintro e w1 ⟨rfl, hb1⟩
              clear c0 c1 c2 c3 c4
              obtain ⟨c0, c1, c2, c3, c4⟩ := HCE.out _ hb1
              go_wp2_with fail
              refine (HIS.out _).mono ?_
              rintro e w2 ⟨rfl, hb2⟩
              have hX2 : Below X.heap.size X w2 := hb1.trans (hb2.mono hb1.size)
              clear c0 c1 c2 c3 c4
              obtain ⟨c0, c1, c2, c3, c4⟩ := HCE.out _ hX2
              go_wp2_with fail
              refine (HFI.out _ (HTX.out.below hX2)).mono ?_
              rintro e w3 ⟨rfl, rfl⟩
              go_wp2
              go_ret
              exact ⟨by rw [HE.out]; rfl, HFIN.out _ hX2⟩
          · have HE : Hid (R = fb) := HFS h0 h1 (by simp) (by simp)
            clear HFT HFG HFP HFS
            go_enter Tryd.func39, Tryd.ntmps39
            go_upto_region 1 with fail
            rw [← hX]
            clear hX hbX
            obtain ⟨c0, c1, c2, c3, c4⟩ := HCE.out _ hX0
            go_wp2_with fail
            refine (HNM.out _ HLY.out).mono ?_
            rintro e w1 ⟨rfl, hb1⟩
            clear c0 c1 c2 c3 c4
            obtain ⟨c0, c1, c2, c3, c4⟩ := HCE.out _ hb1
            go_wp2_with fail
            refine (HFI.out _ (HTX.out.below hb1)).mono ?_
            rintro e w3 ⟨rfl, rfl⟩
            go_wp2
            go_ret
            exact ⟨by rw [HE.out]; rfl, HFIN.out _ hb1⟩
      · cases pe
        · cases ib
          · have HE : Hid (R = false) := HFP rfl
            clear HFT HFG HFP HFS
            go_enter Tryd.func39, Tryd.ntmps39
            go_upto_region 1 with fail
            rw [← hX]
            clear hX hbX
            obtain ⟨c0, c1, c2, c3, c4⟩ := HCE.out _ hX0
            go_wp2_with fail
            refine (HIS.out _).mono ?_
            rintro e w2 ⟨rfl, hb2⟩
            have hX2 : Below X.heap.size X w2 := hX0.trans (hb2.mono hX0.size)
            clear c0 c1 c2 c3 c4
            obtain ⟨c0, c1, c2, c3, c4⟩ := HCE.out _ hX2
            go_wp2
            go_ret
            exact ⟨by rw [HE.out]; rfl, HFIN.out _ hX2⟩
          · have HE : Hid (R = fb) := HFS h0 h1 (by simp) (by simp)
            clear HFT HFG HFP HFS
            go_enter Tryd.func39, Tryd.ntmps39
            go_upto_region 1 with fail
            rw [← hX]
            clear hX hbX
            obtain ⟨c0, c1, c2, c3, c4⟩ := HCE.out _ hX0
            go_wp2_with fail
            refine (HIS.out _).mono ?_
            rintro e w2 ⟨rfl, hb2⟩
            have hX2 : Below X.heap.size X w2 := hX0.trans (hb2.mono hX0.size)
            clear c0 c1 c2 c3 c4
            obtain ⟨c0, c1, c2, c3, c4⟩ := HCE.out _ hX2
            go_wp2_with fail
            refine (HFI.out _ (HTX.out.below hX2)).mono ?_
            rintro e w3 ⟨rfl, rfl⟩
            go_wp2
            go_ret
            exact ⟨by rw [HE.out]; rfl, HFIN.out _ hX2⟩
        · have HE : Hid (R = fb) := HFS h0 h1 (by simp) (by simp)
          clear HFT HFG HFP HFS
          go_enter Tryd.func39, Tryd.ntmps39
          go_upto_region 1 with fail
          rw [← hX]
          clear hX hbX
          obtain ⟨c0, c1, c2, c3, c4⟩ := HCE.out _ hX0
          go_wp2_with fail
          refine (HFI.out _ (HTX.out.below hX0)).mono ?_
          rintro e w3 ⟨rfl, rfl⟩
          go_wp2
          go_ret
          exact ⟨by rw [HE.out]; rfl, HFIN.out _ hX0⟩
    · have HE : Hid (R = false) := HFT (fun h => h1 h.2)
      clear HFT HFG HFP HFS
      go_enter Tryd.func39, Tryd.ntmps39
      go_upto_region 1 with fail
      rw [← hX]
      clear hX hbX
      obtain ⟨c0, c1, c2, c3, c4⟩ := HCE.out _ hX0
      go_wp2
      go_ret
      exact ⟨by rw [HE.out]; rfl, HFIN.out _ hX0⟩
  · have HE : Hid (R = false) := HFT (fun h => h0 h.1)
    clear HFT HFG HFP HFS
    go_enter Tryd.func39, Tryd.ntmps39
    go_upto_region 1 with fail
    rw [← hX]
    clear hX hbX
    obtain ⟨c0, c1, c2, c3, c4⟩ := HCE.out _ hX0
    go_wp2
    go_ret
    exact ⟨by rw [HE.out]; rfl, HFIN.out _ hX0⟩
end Go.Proofs.YtecpapifkbfblaaDoor
