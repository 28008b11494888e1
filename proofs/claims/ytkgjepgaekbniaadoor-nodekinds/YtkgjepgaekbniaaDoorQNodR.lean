/- The reader of nodes: what it reads, in plain words; contracts of fail, number, take, text. -/
import Derived.Test.YtkgjepgaekbniaaDoorQNodF
import Derived.Test.YtkgjepgaekbniaaDoorQUnvar
import Derived.Test.YtkgjepgaekbniaaDoorQClone
namespace Go.Proofs.YtkgjepgaekbniaaDoor
open Go.RowKit
set_option linter.unusedVariables false
set_option linter.unusedSimpArgs false

/-- A reader: what is left, and the first fault. -/
structure St where
  rest : List UInt8
  f : Int
def rFail (e : Int) (s : St) : St := if s.f = 0 then ⟨s.rest, e⟩ else s
def rNum (s : St) : Nat × St :=
  if s.f ≠ 0 then (0, s)
  else if (uv s.rest 0 0).2 = 0 ∨ 1099511627776 < (uv s.rest 0 0).1 then (0, ⟨s.rest, 3⟩)
  else ((uv s.rest 0 0).1, ⟨s.rest.drop (uv s.rest 0 0).2, 0⟩)
def rTake (k : Nat) (s : St) : List UInt8 × St :=
  if s.f ≠ 0 then ([], s)
  else if s.rest.length < k then ([], ⟨s.rest, 6⟩)
  else (s.rest.take k, ⟨s.rest.drop k, 0⟩)
def rText (s : St) : List UInt8 × St := rTake (rNum s).1 (rNum s).2
theorem rNum_le (s : St) : (rNum s).1 ≤ 1099511627776 ∧ (rNum s).2.rest.length ≤ s.rest.length := by
  unfold rNum
  split
  · exact ⟨by simp, Nat.le_refl _⟩
  · split
    · exact ⟨by simp, Nat.le_refl _⟩
    · rename_i h1 h2
      refine ⟨by show (uv s.rest 0 0).1 ≤ _; omega, ?_⟩
      show (s.rest.drop _).length ≤ _
      rw [List.length_drop]; omega
theorem rTake_le (k : Nat) (s : St) : (rTake k s).1.length ≤ s.rest.length ∧ (rTake k s).2.rest.length ≤ s.rest.length := by
  unfold rTake
  split
  · simp
  · split
    · simp
    · constructor
      · show (s.rest.take k).length ≤ _
        rw [List.length_take]; omega
      · show (s.rest.drop k).length ≤ _
        rw [List.length_drop]; omega
/-- A reader in block g. -/
def RD (w : World) (g : Nat) (s : St) : Prop := w.heap[g]? = some (.cells #[.string (mkB s.rest), .int .i64 s.f] 66 (0, 0))
theorem RD.lt {w : World} {g : Nat} {s : St} (h : RD w g s) : g < w.heap.size := by
  rcases Nat.lt_or_ge g w.heap.size with h' | h'
  · exact h'
  · unfold RD at h; simp [Array.getElem?_eq_none h'] at h
theorem RD.c0 {w : World} {g : Nat} {s : St} (h : RD w g s) : w.cell? ⟨g, 0, none⟩ = some (.string (mkB s.rest)) := by rw [Lib.cell_of_heap h]; rfl
theorem RD.c1 {w : World} {g : Nat} {s : St} (h : RD w g s) : w.cell? ⟨g, 1, none⟩ = some (.int .i64 s.f) := by rw [Lib.cell_of_heap h]; rfl
theorem RD.fz {w : World} {g : Nat} {s : St} (h : RD w g s) (j : Nat) : w.frozen? ⟨g, j, none⟩ = false := Lib.frozen_of_heap h j
theorem RD.set0 {w : World} {g : Nat} {s : St} (h : RD w g s) (r : List UInt8) : RD (w.setCell ⟨g, 0, none⟩ (.string (mkB r))) g ⟨r, s.f⟩ := by
  unfold RD
  rw [heap_setCell_same w g 0 _ _ _ h]
  rfl
theorem RD.set1 {w : World} {g : Nat} {s : St} (h : RD w g s) (f : Int) : RD (w.setCell ⟨g, 1, none⟩ (.int .i64 f)) g ⟨s.rest, f⟩ := by
  unfold RD
  rw [heap_setCell_same w g 1 _ _ _ h]
  rfl
theorem RD.below {w w' : World} {g : Nat} {s : St} (h : RD w g s) (hb : Below w.heap.size w w') : RD w' g s := (hb.block _ h.lt).trans h
theorem nrefl (w : World) (g : Nat) : w.grownBy w (some g) := World.grownBy.refl w _
theorem nset {w w' : World} {g : Nat} (h : w.grownBy w' (some g)) (j : Nat) (v : Value) : w.grownBy (w'.setCell ⟨g, j, none⟩ v) (some g) :=
  ⟨h.1, h.2, h.3, by simpa using h.4, fun k hk hn => (heap_setCell_other w' ⟨g, j, none⟩ k v (fun e => hn (congrArg some e))).trans (h.5 k hk hn)⟩
theorem ntrans {w w' w'' : World} {g : Nat} (h : w.grownBy w' (some g)) (k : w'.grownBy w'' (some g)) : w.grownBy w'' (some g) :=
  ⟨k.1.trans h.1, k.2.trans h.2, k.3.trans h.3, Nat.le_trans h.4 k.4, fun i hi hn => (k.5 i (Nat.lt_of_lt_of_le hi h.4) hn).trans (h.5 i hi hn)⟩
theorem nbelow {w w' : World} {g : Nat} (h : Below w.heap.size w w') : w.grownBy w' (some g) :=
  ⟨h.os, h.tape, h.output, h.size, fun i hi _ => h.block i hi⟩
theorem ndrew {w w' : World} {g : Nat} (h : w.grownBy w' (some g)) : w.grownBy w'.drew (some g) := ⟨h.1, h.2, h.3, h.4, h.5⟩
set_option maxRecDepth 100000 in
set_option maxHeartbeats 400000 in
theorem fail_any (g : Nat) (s : St) (e0 : Int) (w : World) (h : RD w g s) :
    Calls Tryd.prog 36 #[.pointer (some ⟨g, 0, none⟩), .int .i64 e0] w fun e w' => e = .returned (.tuple #[]) ∧ RD w' g (rFail e0 s) ∧ w.grownBy w' (some g) := by
  have c1 := h.c1
  have f1 := h.fz 1
  by_cases hf : s.f = 0
  · have HE : Hid (rFail e0 s = ⟨s.rest, e0⟩) := by unfold Hid rFail; rw [if_pos hf]
    have HR := h.set1 e0
    have HH : Hid (RD (w.setCell ⟨g, 1, none⟩ (.int .i64 e0)) g ⟨s.rest, e0⟩) := HR
    clear HR h
    go_enter Tryd.func36, Tryd.ntmps36
    go_wp2
    go_end0
    rw [HE.out]
    exact ⟨rfl, HH.out, nset (nrefl w g) 1 _⟩
  · have HE : Hid (rFail e0 s = s) := by unfold Hid rFail; rw [if_neg hf]
    have hne : (s.f == 0) = false := beq_eq_false_iff_ne.2 hf
    have HH : Hid (RD w g s) := h
    clear h
    go_enter Tryd.func36, Tryd.ntmps36
    go_wp2
    go_end0
    rw [HE.out]
    exact ⟨rfl, HH.out, nrefl w g⟩
theorem uvB_any (l : List UInt8) (w : World) (hl : l.length ≤ 1000000000) :
    Calls Tryd.prog 47 #[.string (mkB l)] w fun e w' => e = .returned (.tuple #[.int .u64 (uv l 0 0).1, .int .i64 (uv l 0 0).2]) ∧ w' = w := unvar_any (mkB l) w (by rw [mkB_size]; omega)
theorem extB_drop (l : List UInt8) (n : Nat) : (mkB l).extract n l.length = mkB (l.drop n) := by
  apply mkB_inj
  rw [ByteArray.data_extract, Array.toList_extract]
  show (l.drop n).take (l.length - n) = _
  rw [List.take_of_length_le (by rw [List.length_drop]; exact Nat.le_refl _)]
theorem extB_take (l : List UInt8) (n : Nat) : (mkB l).extract 0 n = mkB (l.take n) := by
  apply mkB_inj
  rw [ByteArray.data_extract, Array.toList_extract]
  show (l.drop 0).take (n - 0) = _
  simp
theorem u64_i64 (x : Nat) (h : x ≤ 1099511627776) : IntKind.i64.wrap (x : Int) = (x : Int) := by
  unfold IntKind.wrap
  simp [IntKind.signed, IntKind.bits]
  omega
set_option maxRecDepth 100000 in
set_option maxHeartbeats 1000000 in
theorem rnum_any (g : Nat) (s : St) (w : World) (h : RD w g s) (hl : s.rest.length ≤ 1000000000) :
    Calls Tryd.prog 35 #[.pointer (some ⟨g, 0, none⟩)] w fun e w' => e = .returned (.int .i64 ((rNum s).1 : Int)) ∧ RD w' g (rNum s).2 ∧ w.grownBy w' (some g) := by
  have c0 := h.c0
  have c1 := h.c1
  have f0 := h.fz 0
  by_cases hf : s.f = 0
  case neg =>
    have HE : Hid (rNum s = (0, s)) := by unfold Hid rNum; rw [if_pos hf]
    have hne : (s.f == 0) = false := beq_eq_false_iff_ne.2 hf
    have hne2 : (s.f != 0) = true := by rw [bne, hne]; rfl
    have HH : Hid (RD w g s) := h
    clear h
    go_enter Tryd.func35, Tryd.ntmps35
    go_wp2
    go_ret
    rw [HE.out]
    exact ⟨rfl, HH.out, nrefl w g⟩
  have hul := uv_lt s.rest 0 0 (by omega) (by simp)
  have hz := mkB_size s.rest
  have HU : Hid (Calls _ _ _ _ _) := uvB_any s.rest w hl
  have hext := extB_drop s.rest (uv s.rest 0 0).2
  by_cases hb : (uv s.rest 0 0).2 = 0 ∨ 1099511627776 < (uv s.rest 0 0).1
  · have HE : Hid (rNum s = (0, ⟨s.rest, 3⟩)) := by unfold Hid rNum; rw [if_neg (by simpa using hf), if_pos hb]
    have HF : Hid (Calls _ _ _ _ _) := fail_any g s 3 w h
    have HFE : Hid (rFail 3 s = ⟨s.rest, 3⟩) := by unfold Hid rFail; rw [if_pos hf]
    unfold Hid at HF HU
    rw [HFE.out] at HF
    clear h
    rw [hf] at c1
    generalize (uv s.rest 0 0).1 = X at *
    generalize (uv s.rest 0 0).2 = N at *
    by_cases hn : N = 0
    · subst hn
      go_enter Tryd.func35, Tryd.ntmps35
      go_wp2_with fail
      refine (HU : Calls _ _ _ _ _).mono ?_
      rintro e w1 ⟨rfl, hw1⟩
      obtain rfl := hw1.symm
      go_wp2_with fail
      refine (HF : Calls _ _ _ _ _).mono ?_
      rintro e w2 ⟨rfl, h2, k2⟩
      go_wp2
      go_ret
      rw [HE.out]
      exact ⟨rfl, h2, k2⟩
    · have hX : 1099511627776 < X := by rcases hb with h | h; exact absurd h hn; exact h
      have hXi : (1099511627776 : Int) < (X : Int) := by omega
      have hN : ((N : Int) == 0) = false := beq_eq_false_iff_ne.2 (by omega)
      clear hb
      go_enter Tryd.func35, Tryd.ntmps35
      go_wp2_with fail
      refine (HU : Calls _ _ _ _ _).mono ?_
      rintro e w1 ⟨rfl, hw1⟩
      obtain rfl := hw1.symm
      go_wp2_with fail
      refine (HF : Calls _ _ _ _ _).mono ?_
      rintro e w2 ⟨rfl, h2, k2⟩
      go_wp2
      go_ret
      rw [HE.out]
      exact ⟨rfl, h2, k2⟩
  · have HE : Hid (rNum s = ((uv s.rest 0 0).1, ⟨s.rest.drop (uv s.rest 0 0).2, 0⟩)) := by unfold Hid rNum; rw [if_neg (by simpa using hf), if_neg hb]
    have HR : Hid (RD (w.setCell ⟨g, 0, none⟩ (.string (mkB (s.rest.drop (uv s.rest 0 0).2)))) g ⟨s.rest.drop (uv s.rest 0 0).2, 0⟩) := by
      have := h.set0 (s.rest.drop (uv s.rest 0 0).2)
      rw [hf] at this
      exact this
    unfold Hid at HU
    clear h
    rw [hf] at c1
    have hN1 : ¬ (uv s.rest 0 0).2 = 0 := fun e => hb (.inl e)
    have hX1 : (uv s.rest 0 0).1 ≤ 1099511627776 := Nat.le_of_not_lt fun e => hb (.inr e)
    clear hb
    generalize (uv s.rest 0 0).1 = X at *
    generalize (uv s.rest 0 0).2 = N at *
    have hXi : ¬ (1099511627776 : Int) < (X : Int) := by omega
    have hN : ((N : Int) == 0) = false := beq_eq_false_iff_ne.2 (by omega)
    have hNl : (N : Int) ≤ (s.rest.length : Int) := by omega
    go_enter Tryd.func35, Tryd.ntmps35
    go_wp2_with fail
    refine (HU : Calls _ _ _ _ _).mono ?_
    rintro e w1 ⟨rfl, hw1⟩
    obtain rfl := hw1.symm
    go_wp2
    go_ret
    rw [HE.out]
    exact ⟨rfl, HR.out, nset (nrefl w g) 0 _⟩
end Go.Proofs.YtkgjepgaekbniaaDoor
