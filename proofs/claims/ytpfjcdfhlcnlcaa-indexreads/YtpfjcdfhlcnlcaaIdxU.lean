/- Contracts: the document's reader of an index; its Named, Number. -/
import Derived.Test.YtpfjcdfhlcnlcaaIdxD
import Derived.Test.YtpfjcdfhlcnlcaaRUnvar
import Derived.Test.YtpfjcdfhlcnlcaaHexed
import Derived.Test.YtpfjcdfhlcnlcaaIdxI
namespace Go.Proofs.Ytpfjcdfhlcnlcaa
open Go.RowKit Go.Maps
set_option linter.unusedVariables false
set_option linter.unusedSimpArgs false

def cNum (s : Sx) : Nat × Sx :=
  if (uv s.rest 0 0).2 = 0 ∨ 4294967296 ≤ (uv s.rest 0 0).1 then (0, ⟨s.rest, true⟩)
  else ((uv s.rest 0 0).1, ⟨s.rest.drop (uv s.rest 0 0).2, s.bad⟩)
def cTxt (s : Sx) : List UInt8 × Sx :=
  if (cNum s).2.rest.length < (cNum s).1 then ([], ⟨(cNum s).2.rest, true⟩)
  else ((cNum s).2.rest.take (cNum s).1, ⟨(cNum s).2.rest.drop (cNum s).1, (cNum s).2.bad⟩)
theorem cNum_x (s : Sx) (h : s.bad = false) : cNum s = xNum s := by
  obtain ⟨r, b⟩ := s
  dsimp only at h
  subst h
  unfold cNum xNum
  simp
theorem cTxt_x (s : Sx) (h : s.bad = false) : cTxt s = xTxt s := by
  unfold cTxt xTxt
  rw [cNum_x s h]
  by_cases hb : (xNum s).2.bad = true
  · have h1 : (xNum s).1 = 0 := by
      unfold xNum at hb ⊢
      split at hb
      · rename_i h9; rw [if_pos h9]
      · cases hb
    rw [if_neg (by omega), if_pos (.inl hb), h1]
    simp
    cases e : (xNum s).2 with
    | mk r b => rw [e] at hb; simp only at hb; rw [hb]
  · have hb' : (xNum s).2.bad = false := by cases e : (xNum s).2.bad with | false => rfl | true => exact absurd e hb
    rw [hb']
    simp
theorem cNum_bad (s : Sx) (h : s.bad = true) : (cNum s).2.bad = true := by unfold cNum; split; rfl; exact h
theorem cTxt_bad (s : Sx) (h : s.bad = true) : (cTxt s).2.bad = true := by unfold cTxt; split; rfl; exact cNum_bad s h
theorem cNum_lt (s : Sx) : (cNum s).1 < 4294967296 := by
  unfold cNum; split
  · show 0 < 4294967296; decide
  · rename_i h; simp only; omega
theorem cNum_le (s : Sx) : (cNum s).2.rest.length ≤ s.rest.length := by
  unfold cNum; split
  · exact Nat.le_refl _
  · simp
theorem cTxt_le (s : Sx) : (cTxt s).2.rest.length ≤ s.rest.length ∧ (cTxt s).1.length ≤ s.rest.length := by
  have h := cNum_le s
  unfold cTxt
  split
  · exact ⟨h, by simp⟩
  · exact ⟨by simp only [List.length_drop]; omega, by simp only [List.length_take]; omega⟩
/-- The document's reader in block g. -/
def RC (w : World) (g : Nat) (s : Sx) : Prop := w.heap[g]? = some (.cells #[.string (mkB s.rest), .bool s.bad] 86 (0, 0))
theorem RC.lt {w : World} {g : Nat} {s : Sx} (h : RC w g s) : g < w.heap.size := (Array.getElem?_eq_some_iff.1 h).1
theorem RC.c0 {w : World} {g : Nat} {s : Sx} (h : RC w g s) : w.cell? ⟨g, 0, none⟩ = some (.string (mkB s.rest)) := (cell_of_row _ _ _ _ _ _ h).trans rfl
theorem RC.c1 {w : World} {g : Nat} {s : Sx} (h : RC w g s) : w.cell? ⟨g, 1, none⟩ = some (.bool s.bad) := (cell_of_row _ _ _ _ _ _ h).trans rfl
theorem RC.fz {w : World} {g : Nat} {s : Sx} (h : RC w g s) (j : Nat) : w.frozen? ⟨g, j, none⟩ = false := frozen_of_row _ _ _ _ _ h
theorem RC.set0 {w : World} {g : Nat} {s : Sx} (h : RC w g s) (r : List UInt8) : RC (w.setCell ⟨g, 0, none⟩ (.string (mkB r))) g ⟨r, s.bad⟩ := by
  unfold RC
  rw [heap_setCell_same w g 0 _ _ _ h]
  rfl
theorem RC.set1 {w : World} {g : Nat} {s : Sx} (h : RC w g s) (f : Bool) : RC (w.setCell ⟨g, 1, none⟩ (.bool f)) g ⟨s.rest, f⟩ := by
  unfold RC
  rw [heap_setCell_same w g 1 _ _ _ h]
  rfl
theorem RC.below {w w' : World} {g : Nat} {s : Sx} (h : RC w g s) (hb : Below w.heap.size w w') : RC w' g s := (hb.block _ h.lt).trans h
set_option maxRecDepth 100000 in
set_option maxHeartbeats 1000000 in
theorem cnum_any (g : Nat) (s : Sx) (w : World) (h : RC w g s) (hl : s.rest.length ≤ 1000000000) :
    Calls Try.prog 30 #[.pointer (some ⟨g, 0, none⟩)] w fun e w' => e = .returned (.int .i64 ((cNum s).1 : Int)) ∧ RC w' g (cNum s).2 ∧ w.grownBy w' (some g) := by
  have hul := uv_lt s.rest 0 0 (by omega) (by simp)
  have hz := mkB_size s.rest
  have HU : Hid (Calls Try.prog _ _ _ _) := runvar_any (mkB s.rest) w (by rw [mkB_size]; omega)
  have hext := extX_drop s.rest (uv s.rest 0 0).2
  have HX : Hid (RC w g s) := h
  have HE : Hid (cNum s = if (uv s.rest 0 0).2 = 0 ∨ 4294967296 ≤ (uv s.rest 0 0).1 then (0, ⟨s.rest, true⟩) else ((uv s.rest 0 0).1, ⟨s.rest.drop (uv s.rest 0 0).2, s.bad⟩)) := rfl
  obtain ⟨sr, sb⟩ := s
  dsimp only at *
  clear h
  have HU2 : Hid (Calls Try.prog 41 #[.string (mkB sr)] w fun e w' => e = .returned (.tuple #[.int .u64 (uv sr 0 0).1, .int .i64 (uv sr 0 0).2]) ∧ Below w.heap.size w w') := HU
  generalize hX : (uv sr 0 0).1 = X at *
  generalize hT : (uv sr 0 0).2 = T at *
  clear hX hT HU
  obtain ⟨sl, hsl⟩ : ∃ sl, sl = sr.length := ⟨_, rfl⟩
  have HSL : Hid (sl = sr.length) := hsl
  rw [← hsl] at hz hext hul hl
  clear hsl
  have c00 := HX.out.c0
  go_enter Try.func30, Try.ntmps30
  go_wp2_with fail
  refine HU2.out.mono ?_
  rintro e w1 ⟨rfl, hb1⟩
  have hR := HX.out.below hb1
  have c0 := hR.c0
  have c1 := hR.c1
  have f0 := hR.fz 0
  have f1 := hR.fz 1
  dsimp only at c0 c1
  have HS1 : Hid (RC (w1.setCell ⟨g, 1, none⟩ (.bool true)) g ⟨sr, true⟩) := hR.set1 true
  have HS0 : Hid (RC (w1.setCell ⟨g, 0, none⟩ (.string (mkB (sr.drop T)))) g ⟨sr.drop T, sb⟩) := hR.set0 _
  have HG : Hid (w.grownBy w1 (some g)) := gbelow hb1
  clear hR hb1 c00 HU2
  by_cases hT0 : T = 0
  · subst hT0
    rw [if_pos (.inl rfl)] at HE
    go_wp2
    go_ret
    rw [HE.out]
    exact ⟨rfl, HS1.out, gset HG.out 1 _⟩
  · have ht0 : ((T : Int) == 0) = false := by rw [beq_eq_false_iff_ne]; omega
    by_cases hXb : 4294967296 ≤ X
    · rw [if_pos (.inr hXb)] at HE
      have hxi : (4294967295 : Int) < (X : Int) := by omega
      go_wp2
      go_ret
      rw [HE.out]
      exact ⟨rfl, HS1.out, gset HG.out 1 _⟩
    · have hxd : decide ((4294967295 : Int) < (X : Int)) = false := decide_eq_false (by omega)
      rw [if_neg (by omega)] at HE
      have hxw : IntKind.i64.wrap (X : Int) = (X : Int) := by rw [IntKind.wrap_i64]; omega
      have hti : (T : Int) ≤ (sl : Int) := by omega
      have hti0 : (0 : Int) ≤ (T : Int) := by omega
      clear hXb hT0 hul
      go_wp2
      go_ret
      rw [HE.out]
      exact ⟨rfl, HS0.out, gset HG.out 0 _⟩
set_option maxRecDepth 100000 in
set_option maxHeartbeats 1000000 in
theorem ctxt_any (g : Nat) (s : Sx) (w : World) (h : RC w g s) (hl : s.rest.length ≤ 1000000000) :
    Calls Try.prog 31 #[.pointer (some ⟨g, 0, none⟩)] w fun e w' => e = .returned (.string (mkB (cTxt s).1)) ∧ RC w' g (cTxt s).2 ∧ w.grownBy w' (some g) := by
  have HNM : Hid (Calls Try.prog _ _ _ _) := cnum_any g s w h hl
  have hle := cNum_le s
  have HE : Hid (cTxt s = if (cNum s).2.rest.length < (cNum s).1 then ([], ⟨(cNum s).2.rest, true⟩) else ((cNum s).2.rest.take (cNum s).1, ⟨(cNum s).2.rest.drop (cNum s).1, (cNum s).2.bad⟩)) := rfl
  have hNb : (cNum s).1 < 4294967296 := cNum_lt s
  generalize (cNum s).1 = N at *
  generalize (cNum s).2 = s2 at *
  obtain ⟨sr, sb⟩ := s2
  dsimp only at *
  have hz := mkB_size sr
  have hext := extX_drop sr N
  have hext2 := extX_take sr N
  have hlr : sr.length ≤ 1000000000 := by omega
  clear h
  obtain ⟨sl, hsl⟩ : ∃ sl, sl = sr.length := ⟨_, rfl⟩
  have HSL : Hid (sl = sr.length) := hsl
  rw [← hsl] at hz hext hlr HE
  clear hsl hle
  go_enter Try.func31, Try.ntmps31
  go_wp2_with fail
  refine HNM.out.mono ?_
  rintro e w1 ⟨rfl, hR1, hg1⟩
  have c0 := RC.c0 hR1
  have c1 := RC.c1 hR1
  have f0 := RC.fz hR1 0
  have f1 := RC.fz hR1 1
  dsimp only at c0 c1
  have HS1 : Hid (RC (w1.setCell ⟨g, 1, none⟩ (.bool true)) g ⟨sr, true⟩) := RC.set1 hR1 true
  have HG : Hid (w.grownBy w1 (some g)) := hg1
  have HS0 : Hid (RC (w1.setCell ⟨g, 0, none⟩ (.string (mkB (sr.drop N)))) g ⟨sr.drop N, sb⟩) := RC.set0 hR1 _
  clear hR1 hg1
  by_cases hb : sl < N
  · rw [if_pos hb] at HE
    have hbi : (sl : Int) < (N : Int) := by omega
    go_wp2
    go_ret
    rw [HE.out]
    exact ⟨rfl, HS1.out, gset HG.out 1 _⟩
  · have hbi : ¬ (sl : Int) < (N : Int) := by omega
    have hbl : (N : Int) ≤ (sl : Int) := by omega
    have hn0 : (0 : Int) ≤ (N : Int) := by omega
    rw [if_neg hb] at HE
    go_wp2
    go_ret
    rw [HE.out]
    exact ⟨rfl, HS0.out, gset HG.out 0 _⟩
set_option maxRecDepth 100000 in
set_option maxHeartbeats 400000 in
theorem named_any (l : List UInt8) (w : World) (hs : l.length ≤ 9223372036854775807) :
    Calls Try.prog 32 #[.string (mkB l)] w fun e w' => e = .returned (.bool (isNm l)) ∧ Below w.heap.size w w' := by
  have hz := mkB_size l
  have hd : (mkB l).data.toList = l := rfl
  have HHX : Hid (∀ W : World, Calls Try.prog _ _ W _) := fun W => hexed_any (mkB l) W (by rw [mkB_size]; exact hs)
  go_enter Try.func32, Try.ntmps32
  by_cases h64 : l.length = 64
  · have HB : Hid (isNm l = (unhex (mkB l).data.toList).isSome) := by unfold Hid isNm; rw [hd]; simp [h64]
    rw [h64] at hz
    go_wp2_with fail
    refine (HHX.out _).mono ?_
    rintro e w1 ⟨rfl, hb1⟩
    go_wp2
    go_ret
    exact ⟨by rw [HB.out]; rfl, hb1⟩
  · have HB : Hid (isNm l = false) := by unfold Hid isNm; simp [h64]
    have hz3 : ((l.length : Int) == 64) = false := by rw [beq_eq_false_iff_ne]; omega
    go_wp2_with fail
    go_ret
    exact ⟨by rw [HB.out]; rfl, Below.refl _ _⟩
end Go.Proofs.Ytpfjcdfhlcnlcaa
