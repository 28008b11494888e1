/- Contract: Decode, where the bytes aren't laid out so. -/
import Derived.Test.YtecpapifkbfblaaDoorManH
namespace Go.Proofs.YtecpapifkbfblaaDoor
open Go.RowKit
set_option linter.unusedVariables false
set_option linter.unusedSimpArgs false

theorem Tryd.zeroRdM (w : World) : (zeroValue 90).run Tryd.prog w = .ok (.agg #[.string ⟨#[]⟩, .bool false]) w := by kernel_rfl
def zM : Array Value := #[.int .i64 0, .string ⟨#[]⟩, .string ⟨#[]⟩, .int .i64 0, .slice none 0 0]
set_option maxRecDepth 100000 in
set_option maxHeartbeats 2000000 in
theorem decode_text (l : List UInt8) (w : World) (hl : l.length ≤ 1000000000) (hb : (mLeft l).bad = true) :
    Calls Tryd.prog 27 #[.string (mkB l)] w fun e w' => e = .returned (.tuple #[.agg zM, .int .i64 3]) ∧ Below w.heap.size w w' := by
  have hzm := Tryd.zeroMf
  have hzr := Tryd.zeroRdM
  unfold zM
  obtain ⟨rx, hrx⟩ : ∃ rx, rx = w.heap.size := ⟨_, rfl⟩
  obtain ⟨gg, hgg⟩ : ∃ gg, gg = w.heap.size + 1 := ⟨_, rfl⟩
  obtain ⟨X, hX⟩ : ∃ X, X = (w.alloc (.cells #[.int .i64 0, .string ⟨#[]⟩, .string ⟨#[]⟩, .int .i64 0, .slice none 0 0] 37)).alloc (.cells #[.string (mkB l), .bool false] 90) := ⟨_, rfl⟩
  have hbX : Below w.heap.size w X := by rw [hX]; exact ((Below.refl _ w).alloc (Nat.le_refl _) _).alloc (by rw [World.size_alloc]; omega) _
  have hxX : X.heap[rx]? = some (.cells #[.int .i64 0, .string ⟨#[]⟩, .string ⟨#[]⟩, .int .i64 0, .slice none 0 0] 37 (0, 0)) := by
    rw [hX, hrx, heap_alloc_old _ _ (by rw [World.size_alloc]; omega)]; exact heap_alloc_new w _
  have hR : RX X gg ⟨l, false⟩ := by
    unfold RX
    rw [hX, hgg]
    have := heap_alloc_new (w.alloc (.cells #[.int .i64 0, .string ⟨#[]⟩, .string ⟨#[]⟩, .int .i64 0, .slice none 0 0] 37)) (.cells #[.string (mkB l), .bool false] 90)
    rw [World.size_alloc] at this; exact this
  have HM : Hid (Calls _ _ _ _ _) := man_any gg l X hR hl
  obtain ⟨r, hr⟩ : ∃ r, r = (mLeft l).rest := ⟨_, rfl⟩
  have hml : mLeft l = ⟨r, true⟩ := by rw [hr]; cases h : mLeft l; rw [h] at hb; cases hb; rfl
  have hgw : w.heap.size ≤ gg := by omega
  unfold mfV Hid at HM
  rw [hml] at HM
  have HMM : Hid (Calls _ _ _ _ _) := HM
  clear HM hb hr hml hR
  generalize mTold l = m at *
  obtain ⟨t, g, p, s, ch⟩ := m
  dsimp only at HMM
  generalize mkB g = G at *
  generalize mkB p = P at *
  go_enter Tryd.func27, Tryd.ntmps27
  go_wp2_with fail
  rw [← hX, ← hgg, ← hrx]
  have hne : rx ≠ gg := by omega
  have hw2 : w.heap.size ≤ rx := by omega
  clear hgg hrx
  refine (Hid.out HMM : Calls _ _ _ _ _).mono ?_
  rintro e w1 ⟨v, rfl, hO, hR1, hg1⟩
  have hx1 : w1.heap[rx]? = some (.cells #[.int .i64 0, .string ⟨#[]⟩, .string ⟨#[]⟩, .int .i64 0, .slice none 0 0] 37 (0, 0)) := (hg1.block _ (Array.getElem?_eq_some_iff.1 hxX).1 (fun e => hne (Option.some.inj e))).trans hxX
  have hb1 : Below w.heap.size w w1 := hbX.grown hg1 hbX.size (fun k hk => by cases hk; exact hgw)
  obtain ⟨va, vn, vc, rfl⟩ : ∃ a n c, v = .slice a n c := by
    rcases hO.2 with ⟨hv, _⟩ | ⟨g', cap', cur, hv, _⟩
    · exact ⟨_, _, _, hv⟩
    · exact ⟨_, _, _, hv⟩
  clear hX hxX hbX hg1 hO HMM
  obtain ⟨W2, hW2⟩ : ∃ W2, W2 = w1.alloc (.cells #[.int .i64 t, .string G, .string P, .int .i64 s, .slice va vn vc] 37) := ⟨_, rfl⟩
  have hbb : Below w1.heap.size w1 W2 := by rw [hW2]; exact (Below.refl _ w1).alloc (Nat.le_refl _) _
  have HR2 : RX W2 gg ⟨r, true⟩ := hR1.kept hbb
  have r1 := HR2.c1
  have hx2 : W2.heap[rx]? = _ := (hbb.block _ (Array.getElem?_eq_some_iff.1 hx1).1).trans hx1
  have HB2 : Hid (Below w.heap.size w W2) := hb1.trans (hbb.mono hb1.size)
  clear hR1 HR2 hx1 hb1 hbb
  go_upto_region 3 with fail
  rw [← hW2]
  clear hW2
  obtain ⟨⟨x0, x1, x2, x3, x4⟩, y0, y1, y2, y3, y4⟩ := five_cell hx2
  have HX2 : Hid (_ = _) := hx2
  clear hx2
  go_wp2
  have q1 : (put5m W2 rx (.int .i64 0) (.string ⟨#[]⟩) (.string ⟨#[]⟩) (.int .i64 0) (.slice none 0 0)).heap[rx]? = some (.cells #[.int .i64 0, .string ⟨#[]⟩, .string ⟨#[]⟩, .int .i64 0, .slice none 0 0] 37 (0, 0)) := by
    unfold put5m
    rw [heap_setCell_same _ _ _ _ _ _ (heap_setCell_same _ _ _ _ _ _ (heap_setCell_same _ _ _ _ _ _ (heap_setCell_same _ _ _ _ _ _ (heap_setCell_same _ _ _ _ _ _ HX2.out))))]; rfl
  have q2 : Below w.heap.size w (put5m W2 rx (.int .i64 0) (.string ⟨#[]⟩) (.string ⟨#[]⟩) (.int .i64 0) (.slice none 0 0)) := ((((HB2.out.setCell hw2 _).setCell hw2 _).setCell hw2 _).setCell hw2 _).setCell hw2 _
  unfold put5m at q1 q2
  generalize World.setCell (World.setCell (World.setCell (World.setCell (World.setCell W2 _ _) _ _) _ _) _ _) _ _ = W3 at *
  obtain ⟨⟨k0, k1, k2, k3, k4⟩, -⟩ := five_cell q1
  exact bodyPost_ret (v := .tuple #[.agg #[.int .i64 0, .string ⟨#[]⟩, .string ⟨#[]⟩, .int .i64 0, .slice none 0 0], .int .i64 3]) (by simp [results, Tryd.results27, go_sem, k0, k1, k2, k3, k4]) rfl ⟨rfl, q2⟩
end Go.Proofs.YtecpapifkbfblaaDoor
