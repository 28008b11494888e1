/- Contracts: the reader of an index. -/
import Derived.Test.YtpfjcdfhlcnlcaaAwk17
import Derived.Test.YtpfjcdfhlcnlcaaIdxR
import Derived.Test.YtpfjcdfhlcnlcaaIsD
import Derived.Test.YtpfjcdfhlcnlcaaUnvar
namespace Go.Proofs.Ytpfjcdfhlcnlcaa
open Go.RowKit Go.Maps
set_option linter.unusedVariables false
set_option linter.unusedSimpArgs false

/-- A reader in block g. -/
def RX (w : World) (g : Nat) (s : Sx) : Prop := w.heap[g]? = some (.cells #[.string (mkB s.rest), .bool s.bad] 82 (0, 0))
theorem RX.lt {w : World} {g : Nat} {s : Sx} (h : RX w g s) : g < w.heap.size := (Array.getElem?_eq_some_iff.1 h).1
theorem RX.c0 {w : World} {g : Nat} {s : Sx} (h : RX w g s) : w.cell? ⟨g, 0, none⟩ = some (.string (mkB s.rest)) := (cell_of_row _ _ _ _ _ _ h).trans rfl
theorem RX.c1 {w : World} {g : Nat} {s : Sx} (h : RX w g s) : w.cell? ⟨g, 1, none⟩ = some (.bool s.bad) := (cell_of_row _ _ _ _ _ _ h).trans rfl
theorem RX.fz {w : World} {g : Nat} {s : Sx} (h : RX w g s) (j : Nat) : w.frozen? ⟨g, j, none⟩ = false := frozen_of_row _ _ _ _ _ h
theorem RX.set0 {w : World} {g : Nat} {s : Sx} (h : RX w g s) (r : List UInt8) : RX (w.setCell ⟨g, 0, none⟩ (.string (mkB r))) g ⟨r, s.bad⟩ := by
  unfold RX
  rw [heap_setCell_same w g 0 _ _ _ h]
  rfl
theorem RX.set1 {w : World} {g : Nat} {s : Sx} (h : RX w g s) (f : Bool) : RX (w.setCell ⟨g, 1, none⟩ (.bool f)) g ⟨s.rest, f⟩ := by
  unfold RX
  rw [heap_setCell_same w g 1 _ _ _ h]
  rfl
theorem uvX_any (l : List UInt8) (w : World) (hl : l.length ≤ 1000000000) :
    Calls Try.prog 47 #[.string (mkB l)] w fun e w' => e = .returned (.tuple #[.int .u64 (uv l 0 0).1, .int .i64 (uv l 0 0).2]) ∧ w' = w := unvar_any (mkB l) w (by rw [mkB_size]; omega)
theorem extX_drop (l : List UInt8) (n : Nat) : (mkB l).extract n l.length = mkB (l.drop n) := by
  apply mkB_inj
  rw [ByteArray.data_extract, Array.toList_extract]
  show (l.drop n).take (l.length - n) = _
  rw [List.take_of_length_le (by rw [List.length_drop]; exact Nat.le_refl _)]
theorem extX_take (l : List UInt8) (n : Nat) : (mkB l).extract 0 n = mkB (l.take n) := by
  apply mkB_inj
  rw [ByteArray.data_extract, Array.toList_extract]
  show (l.drop 0).take (n - 0) = _
  simp
set_option maxRecDepth 100000 in
set_option maxHeartbeats 1000000 in
theorem xnum_any (g : Nat) (s : Sx) (w : World) (h : RX w g s) (hl : s.rest.length ≤ 1000000000) :
    Calls Try.prog 38 #[.pointer (some ⟨g, 0, none⟩)] w fun e w' => e = .returned (.int .i64 ((xNum s).1 : Int)) ∧ RX w' g (xNum s).2 ∧ w.grownBy w' (some g) := by
  have c0 := h.c0
  have c1 := h.c1
  have f0 := h.fz 0
  have f1 := h.fz 1
  have hul := uv_lt s.rest 0 0 (by omega) (by simp)
  have hz := mkB_size s.rest
  have HU : Hid (Calls Try.prog _ _ _ _) := uvX_any s.rest w hl
  have hext := extX_drop s.rest (uv s.rest 0 0).2
  have HS1 : Hid (RX (w.setCell ⟨g, 1, none⟩ (.bool true)) g ⟨s.rest, true⟩) := h.set1 true
  have HX : Hid (RX w g s) := h
  have HG1 : Hid (w.grownBy (w.setCell ⟨g, 1, none⟩ (.bool true)) (some g)) := gset (grefl w _) 1 _
  have HG0 : Hid (w.grownBy (w.setCell ⟨g, 0, none⟩ (.string (mkB (s.rest.drop (uv s.rest 0 0).2)))) (some g)) := gset (grefl w _) 0 _
  have HS0 : Hid (RX (w.setCell ⟨g, 0, none⟩ (.string (mkB (s.rest.drop (uv s.rest 0 0).2)))) g ⟨s.rest.drop (uv s.rest 0 0).2, s.bad⟩) := h.set0 _
  have HE : Hid (xNum s = if s.bad = true ∨ (uv s.rest 0 0).2 = 0 ∨ 4294967296 ≤ (uv s.rest 0 0).1 then (0, ⟨s.rest, true⟩) else ((uv s.rest 0 0).1, ⟨s.rest.drop (uv s.rest 0 0).2, false⟩)) := rfl
  obtain ⟨sr, sb⟩ := s
  dsimp only at *
  clear h
  generalize hX : (uv sr 0 0).1 = X at *
  generalize hT : (uv sr 0 0).2 = T at *
  clear hX hT
  obtain ⟨sl, hsl⟩ : ∃ sl, sl = sr.length := ⟨_, rfl⟩
  have HSL : Hid (sl = sr.length) := hsl
  rw [← hsl] at hz hext hul hl
  clear hsl
  by_cases hT0 : T = 0
  · subst hT0
    rw [if_pos (.inr (.inl rfl))] at HE
    rw [HE.out]
    go_enter Try.func38, Try.ntmps38
    go_wp2_with fail
    refine HU.out.mono ?_
    rintro e w1 ⟨rfl, hw1⟩
    have hw2 := hw1.symm
    subst hw2
    go_wp2
    go_ret
    exact ⟨rfl, HS1.out, HG1.out⟩
  · have ht0 : ((T : Int) == 0) = false := by rw [beq_eq_false_iff_ne]; omega
    by_cases hXb : 4294967296 ≤ X
    · rw [if_pos (.inr (.inr hXb))] at HE
      rw [HE.out]
      have hxi : (4294967296 : Int) ≤ (X : Int) := by omega
      go_enter Try.func38, Try.ntmps38
      go_wp2_with fail
      refine HU.out.mono ?_
      rintro e w1 ⟨rfl, hw1⟩
      have hw2 := hw1.symm
      subst hw2
      go_wp2
      go_ret
      exact ⟨rfl, HS1.out, HG1.out⟩
    · have hxd : decide ((4294967296 : Int) ≤ (X : Int)) = false := decide_eq_false (by omega)
      have HXB : Hid (¬ 4294967296 ≤ X) := hXb
      have HUL : Hid (_ ∧ _) := hul
      have htl : T ≤ sl := by omega
      clear hXb hul hT0
      cases sb
      · rw [if_neg (by have := HXB.out; have h9 : ¬ T = 0 := fun e => by rw [e] at ht0; cases ht0
                       simp; omega)] at HE
        rw [HE.out]
        have hxw : IntKind.i64.wrap (X : Int) = (X : Int) := by rw [IntKind.wrap_i64]; have := HUL.out; have h8 := HXB.out; omega
        have hti : (T : Int) ≤ (sl : Int) := by omega
        have hti0 : (0 : Int) ≤ (T : Int) := by omega
        go_enter Try.func38, Try.ntmps38
        go_wp2_with fail
        refine HU.out.mono ?_
        rintro e w1 ⟨rfl, hw1⟩
        have hw2 := hw1.symm
        subst hw2
        go_wp2
        go_ret
        exact ⟨rfl, HS0.out, HG0.out⟩
      · rw [if_pos (.inl rfl)] at HE
        rw [HE.out]
        go_enter Try.func38, Try.ntmps38
        go_wp2_with fail
        refine HU.out.mono ?_
        rintro e w1 ⟨rfl, hw1⟩
        have hw2 := hw1.symm
        subst hw2
        go_wp2
        go_ret
        exact ⟨rfl, HX.out, grefl _ _⟩
set_option maxRecDepth 100000 in
set_option maxHeartbeats 1000000 in
theorem xtxt_any (g : Nat) (s : Sx) (w : World) (h : RX w g s) (hl : s.rest.length ≤ 1000000000) :
    Calls Try.prog 39 #[.pointer (some ⟨g, 0, none⟩)] w fun e w' => e = .returned (.string (mkB (xTxt s).1)) ∧ RX w' g (xTxt s).2 ∧ w.grownBy w' (some g) := by
  have HNM : Hid (Calls Try.prog _ _ _ _) := xnum_any g s w h hl
  have hle := (xNum_le s).1
  have HE : Hid (xTxt s = if (xNum s).2.bad = true ∨ (xNum s).2.rest.length < (xNum s).1 then ([], ⟨(xNum s).2.rest, true⟩) else ((xNum s).2.rest.take (xNum s).1, ⟨(xNum s).2.rest.drop (xNum s).1, false⟩)) := rfl
  generalize hN : (xNum s).1 = N at *
  generalize hS2 : (xNum s).2 = s2 at *
  obtain ⟨sr, sb⟩ := s2
  dsimp only at *
  have hz := mkB_size sr
  have hext := extX_drop sr N
  have hext2 := extX_take sr N
  have hlr : sr.length ≤ 1000000000 := by omega
  have hNb : N < 4294967296 := by rw [← hN]; exact xNum_lt s
  clear hN hS2 h
  obtain ⟨sl, hsl⟩ : ∃ sl, sl = sr.length := ⟨_, rfl⟩
  have HSL : Hid (sl = sr.length) := hsl
  rw [← hsl] at hz hext hlr HE
  clear hsl hle
  have HEM : Hid ((⟨#[]⟩ : ByteArray) = mkB []) := rfl
  go_enter Try.func39, Try.ntmps39
  go_wp2_with fail
  refine HNM.out.mono ?_
  rintro e w1 ⟨rfl, hR1, hg1⟩
  have c0 := RX.c0 hR1
  have c1 := RX.c1 hR1
  have f0 := RX.fz hR1 0
  have f1 := RX.fz hR1 1
  dsimp only at c0 c1
  have HS1 : Hid (RX (w1.setCell ⟨g, 1, none⟩ (.bool true)) g ⟨sr, true⟩) := RX.set1 hR1 true
  have HX : Hid (RX w1 g ⟨sr, sb⟩) := hR1
  have HG : Hid (w.grownBy w1 (some g)) := hg1
  have HS0 : Hid (RX (w1.setCell ⟨g, 0, none⟩ (.string (mkB (sr.drop N)))) g ⟨sr.drop N, sb⟩) := RX.set0 hR1 _
  clear hR1 hg1
  by_cases hb : sl < N
  · rw [if_pos (.inr hb)] at HE
    have hbi : (sl : Int) < (N : Int) := by omega
    go_wp2
    go_ret
    rw [HE.out]
    exact ⟨rfl, HS1.out, gset HG.out 1 _⟩
  · have hbi : ¬ (sl : Int) < (N : Int) := by omega
    have hbl : (N : Int) ≤ (sl : Int) := by omega
    have hn0 : (0 : Int) ≤ (N : Int) := by omega
    cases sb
    · rw [if_neg (by simp; omega)] at HE
      go_wp2
      go_ret
      rw [HE.out]
      exact ⟨rfl, HS0.out, gset HG.out 0 _⟩
    · rw [if_pos (.inl rfl)] at HE
      go_wp2
      go_ret
      rw [HE.out]
      exact ⟨rfl, HX.out, HG.out⟩
end Go.Proofs.Ytpfjcdfhlcnlcaa
