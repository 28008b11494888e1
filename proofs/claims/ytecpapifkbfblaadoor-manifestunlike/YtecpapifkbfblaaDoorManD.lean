/- Contracts: the reader of a manifest: number, take. -/
import Derived.Test.YtecpapifkbfblaaDoorManC
import Derived.Test.YtecpapifkbfblaaDoorGrow
import Derived.Test.YtecpapifkbfblaaDoorUnvar
import Derived.Test.YtecpapifkbfblaaDoorClone
namespace Go.Proofs.YtecpapifkbfblaaDoor
open Go.RowKit
set_option linter.unusedVariables false
set_option linter.unusedSimpArgs false

/-- A reader in block g. -/
def RX (w : World) (g : Nat) (s : Sx) : Prop := w.heap[g]? = some (.cells #[.string (mkB s.rest), .bool s.bad] 90 (0, 0))
theorem RX.lt {w : World} {g : Nat} {s : Sx} (h : RX w g s) : g < w.heap.size := (Array.getElem?_eq_some_iff.1 h).1
theorem RX.c0 {w : World} {g : Nat} {s : Sx} (h : RX w g s) : w.cell? ⟨g, 0, none⟩ = some (.string (mkB s.rest)) := (cell_of_row _ _ _ _ _ _ h).trans rfl
theorem RX.c1 {w : World} {g : Nat} {s : Sx} (h : RX w g s) : w.cell? ⟨g, 1, none⟩ = some (.bool s.bad) := (cell_of_row _ _ _ _ _ _ h).trans rfl
theorem RX.fz {w : World} {g : Nat} {s : Sx} (h : RX w g s) (j : Nat) : w.frozen? ⟨g, j, none⟩ = false := frozen_of_row _ _ _ _ _ h
theorem RX.set0 {w : World} {g : Nat} {s : Sx} (h : RX w g s) (r : List UInt8) : RX (w.setCell ⟨g, 0, none⟩ (.string (mkB r))) g ⟨r, s.bad⟩ := by
  unfold RX
  rw [heap_setCell_same w g 0 _ _ _ h]
  rfl
theorem RX.set1 {w : World} {g : Nat} {s : Sx} (h : RX w g s) (f : Bool) : RX (w.setCell ⟨g, 1, none⟩ (.bool f)) g ⟨s.rest, f⟩ := by
  unfold RX
  rw [heap_setCell_same w g 1 _ _ _ h]
  rfl
/-- The next number, and what is left. -/
def mNum (s : Sx) : Nat × Sx := if s.bad = true ∨ (uv s.rest 0 0).2 = 0 ∨ 1099511627776 < (uv s.rest 0 0).1 then (0, ⟨s.rest, true⟩) else ((uv s.rest 0 0).1, ⟨s.rest.drop (uv s.rest 0 0).2, false⟩)
/-- The next n bytes, and what is left. -/
def mTake (n : Nat) (s : Sx) : List UInt8 × Sx := if s.bad = true ∨ s.rest.length < n then ([], ⟨s.rest, true⟩) else (s.rest.take n, ⟨s.rest.drop n, false⟩)
theorem uvX_any (l : List UInt8) (w : World) (hl : l.length ≤ 1000000000) :
    Calls Tryd.prog 49 #[.string (mkB l)] w fun e w' => e = .returned (.tuple #[.int .u64 (uv l 0 0).1, .int .i64 (uv l 0 0).2]) ∧ w' = w := unvar_any (mkB l) w (by rw [mkB_size]; omega)
theorem extX_drop (l : List UInt8) (n : Nat) : (mkB l).extract n l.length = mkB (l.drop n) := by
  apply mkB_inj
  rw [ByteArray.data_extract, Array.toList_extract]
  show (l.drop n).take (l.length - n) = _
  rw [List.take_of_length_le (by rw [List.length_drop]; exact Nat.le_refl _)]
theorem extX_take (l : List UInt8) (n : Nat) : (mkB l).extract 0 n = mkB (l.take n) := by
  apply mkB_inj
  rw [ByteArray.data_extract, Array.toList_extract]
  show (l.drop 0).take (n - 0) = _
  simp
set_option maxRecDepth 100000 in
set_option maxHeartbeats 1000000 in
theorem rnum_any (g : Nat) (s : Sx) (w : World) (h : RX w g s) (hl : s.rest.length ≤ 1000000000) :
    Calls Tryd.prog 57 #[.pointer (some ⟨g, 0, none⟩)] w fun e w' => e = .returned (.int .i64 ((mNum s).1 : Int)) ∧ RX w' g (mNum s).2 ∧ w.grownBy w' (some g) := by
  have c0 := h.c0
  have c1 := h.c1
  have f0 := h.fz 0
  have f1 := h.fz 1
  have hul := uv_lt s.rest 0 0 (by omega) (by simp)
  have hz := mkB_size s.rest
  have HU : Hid (Calls Tryd.prog _ _ _ _) := uvX_any s.rest w hl
  have hext := extX_drop s.rest (uv s.rest 0 0).2
  have HS1 : Hid (RX (w.setCell ⟨g, 1, none⟩ (.bool true)) g ⟨s.rest, true⟩) := h.set1 true
  have HX : Hid (RX w g s) := h
  have HG1 : Hid (w.grownBy (w.setCell ⟨g, 1, none⟩ (.bool true)) (some g)) := gset (grefl w _) 1 _
  have HG0 : Hid (w.grownBy (w.setCell ⟨g, 0, none⟩ (.string (mkB (s.rest.drop (uv s.rest 0 0).2)))) (some g)) := gset (grefl w _) 0 _
  have HS0 : Hid (RX (w.setCell ⟨g, 0, none⟩ (.string (mkB (s.rest.drop (uv s.rest 0 0).2)))) g ⟨s.rest.drop (uv s.rest 0 0).2, s.bad⟩) := h.set0 _
  have HE : Hid (mNum s = if s.bad = true ∨ (uv s.rest 0 0).2 = 0 ∨ 1099511627776 < (uv s.rest 0 0).1 then (0, ⟨s.rest, true⟩) else ((uv s.rest 0 0).1, ⟨s.rest.drop (uv s.rest 0 0).2, false⟩)) := rfl
  obtain ⟨sr, sb⟩ := s
  dsimp only at *
  clear h
  generalize hX : (uv sr 0 0).1 = X at *
  generalize hT : (uv sr 0 0).2 = T at *
  clear hX hT
  obtain ⟨sl, hsl⟩ : ∃ sl, sl = sr.length := ⟨_, rfl⟩
  have HSL : Hid (sl = sr.length) := hsl
  rw [← hsl] at hz hext hul hl
  clear hsl
  by_cases hT0 : T = 0
  · subst hT0
    rw [if_pos (.inr (.inl rfl))] at HE
    rw [HE.out]
    go_enter Tryd.func57, Tryd.ntmps57
    go_wp2_with fail
    refine HU.out.mono ?_
    rintro e w1 ⟨rfl, hw1⟩
    have hw2 := hw1.symm
    subst hw2
    go_wp2
    go_ret
    exact ⟨rfl, HS1.out, HG1.out⟩
  · have ht0 : ((T : Int) == 0) = false := by rw [beq_eq_false_iff_ne]; omega
    by_cases hXb : 1099511627776 < X
    · rw [if_pos (.inr (.inr hXb))] at HE
      rw [HE.out]
      have hxi : (1099511627776 : Int) < (X : Int) := by omega
      go_enter Tryd.func57, Tryd.ntmps57
      go_wp2_with fail
      refine HU.out.mono ?_
      rintro e w1 ⟨rfl, hw1⟩
      have hw2 := hw1.symm
      subst hw2
      go_wp2
      go_ret
      exact ⟨rfl, HS1.out, HG1.out⟩
    · have hxd : decide ((1099511627776 : Int) < (X : Int)) = false := decide_eq_false (by omega)
      have HXB : Hid (¬ 1099511627776 < X) := hXb
      have HUL : Hid (_ ∧ _) := hul
      have htl : T ≤ sl := by omega
      clear hXb hul hT0
      cases sb
      · rw [if_neg (by have := HXB.out; have h9 : ¬ T = 0 := fun e => by rw [e] at ht0; cases ht0
                       simp; omega)] at HE
        rw [HE.out]
        have hxw : IntKind.i64.wrap (X : Int) = (X : Int) := by rw [IntKind.wrap_i64]; have := HUL.out; have h8 := HXB.out; omega
        have hti : (T : Int) ≤ (sl : Int) := by omega
        have hti0 : (0 : Int) ≤ (T : Int) := by omega
        go_enter Tryd.func57, Tryd.ntmps57
        go_wp2_with fail
        refine HU.out.mono ?_
        rintro e w1 ⟨rfl, hw1⟩
        have hw2 := hw1.symm
        subst hw2
        go_wp2
        go_ret
        exact ⟨rfl, HS0.out, HG0.out⟩
      · rw [if_pos (.inl rfl)] at HE
        rw [HE.out]
        go_enter Tryd.func57, Tryd.ntmps57
        go_wp2_with fail
        refine HU.out.mono ?_
        rintro e w1 ⟨rfl, hw1⟩
        have hw2 := hw1.symm
        subst hw2
        go_wp2
        go_ret
        exact ⟨rfl, HX.out, grefl _ _⟩
end Go.Proofs.YtecpapifkbfblaaDoor
