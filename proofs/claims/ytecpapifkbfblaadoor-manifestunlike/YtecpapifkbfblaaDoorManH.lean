/- Contracts: reader.manifest, Decode. -/
import Derived.Test.YtecpapifkbfblaaDoorManG
namespace Go.Proofs.YtecpapifkbfblaaDoor
open Go.RowKit
set_option linter.unusedVariables false
set_option linter.unusedSimpArgs false

/-- A box of five cells at bx, a reader at g, the result's cell at rx. -/
structure MD (w W : World) (g bx rx : Nat) (s : Sx) (cs : Array Value) : Prop where
  rd : RX W g s
  bxh : W.heap[bx]? = some (.cells cs 37 (0, 0))
  rxh : W.heap[rx]? = some (.cells #[.int .i64 0, .string ⟨#[]⟩, .string ⟨#[]⟩, .int .i64 0, .slice none 0 0] 37 (0, 0))
  bel : w.grownBy W (some g)
  lo : w.heap.size ≤ bx ∧ w.heap.size ≤ rx ∧ bx ≠ rx ∧ g < w.heap.size
theorem MD.call {w W W' : World} {g bx rx : Nat} {s s' : Sx} {cs : Array Value} (h : MD w W g bx rx s cs) (hr : RX W' g s') (hg : W.grownBy W' (some g)) : MD w W' g bx rx s' cs := by
  have e1 : bx ≠ g := by have := h.lo; omega
  have e2 : rx ≠ g := by have := h.lo; omega
  exact ⟨hr, (hg.block _ (Array.getElem?_eq_some_iff.1 h.bxh).1 (fun e => e1 (Option.some.inj e))).trans h.bxh, (hg.block _ (Array.getElem?_eq_some_iff.1 h.rxh).1 (fun e => e2 (Option.some.inj e))).trans h.rxh, gtrans h.bel hg, h.lo⟩
theorem MD.set {w W : World} {g bx rx : Nat} {s : Sx} {cs : Array Value} (h : MD w W g bx rx s cs) (i : Nat) (v : Value) : MD w (W.setCell ⟨bx, i, none⟩ v) g bx rx s (cs.setIfInBounds i v) := by
  have hl := h.lo
  refine ⟨?_, by rw [heap_setCell_same _ _ _ _ _ _ h.bxh], ?_, ?_, h.lo⟩
  · unfold RX; rw [Below.heap_setCell _ _ _ _ (by show g ≠ bx; omega)]; exact h.rd
  · rw [Below.heap_setCell _ _ _ _ (by show rx ≠ bx; omega)]; exact h.rxh
  · exact ⟨h.bel.os, h.bel.tape, h.bel.output, by simpa using h.bel.size, fun k hk hne => by rw [Below.heap_setCell _ _ _ _ (by show k ≠ bx; omega)]; exact h.bel.block k hk hne⟩
theorem MD.fail {w W : World} {g bx rx : Nat} {s : Sx} {cs : Array Value} (h : MD w W g bx rx s cs) : MD w (W.setCell ⟨g, 1, none⟩ (.bool true)) g bx rx ⟨s.rest, true⟩ cs :=
  h.call (h.rd.set1 true) (gset (grefl W _) 1 _)
def put5m (W : World) (rx : Nat) (v0 v1 v2 v3 v4 : Value) : World := ((((W.setCell ⟨rx, 0, none⟩ v0).setCell ⟨rx, 1, none⟩ v1).setCell ⟨rx, 2, none⟩ v2).setCell ⟨rx, 3, none⟩ v3).setCell ⟨rx, 4, none⟩ v4
theorem MD.done {w W : World} {g bx rx B : Nat} {s : Sx} {cs : Array Value} {u : Value} {l : List (List UInt8)} (h : MD w W g bx rx s cs) (hO : OT W B u l) (hB : rx < B) (hw : w.heap.size ≤ B) (v0 v1 v2 v3 v4 : Value) : (put5m W rx v0 v1 v2 v3 v4).heap[rx]? = some (.cells #[v0, v1, v2, v3, v4] 37 (0, 0)) ∧ OT (put5m W rx v0 v1 v2 v3 v4) w.heap.size u l ∧ RX (put5m W rx v0 v1 v2 v3 v4) g s ∧ w.grownBy (put5m W rx v0 v1 v2 v3 v4) (some g) := by
  have hl := h.lo
  have hg : W.grownBy (put5m W rx v0 v1 v2 v3 v4) (some rx) := gset (gset (gset (gset (gset (grefl W _) 0 v0) 1 v1) 2 v2) 3 v3) 4 v4
  refine ⟨?_, (hO.grown hg hB).mono hw, (hg.block g h.rd.lt (fun e => by have := Option.some.inj e; omega)).trans h.rd, hg.os.trans h.bel.os, hg.tape.trans h.bel.tape, hg.output.trans h.bel.output, Nat.le_trans h.bel.size hg.size, fun k hk hne => (hg.block k (Nat.lt_of_lt_of_le hk h.bel.size) (fun e => by have := Option.some.inj e; omega)).trans (h.bel.block k hk hne)⟩
  unfold put5m
  rw [heap_setCell_same _ _ _ _ _ _ (heap_setCell_same _ _ _ _ _ _ (heap_setCell_same _ _ _ _ _ _ (heap_setCell_same _ _ _ _ _ _ (heap_setCell_same _ _ _ _ _ _ h.rxh))))]; rfl
/-- What is read of the bytes, in memory. -/
def mS0 (l : List UInt8) : Sx := if (mTake 4 ⟨l, false⟩).1 = [115, 110, 97, 112] then (mTake 4 ⟨l, false⟩).2 else ⟨(mTake 4 ⟨l, false⟩).2.rest, true⟩
theorem mS0_le (l : List UInt8) : (mS0 l).rest.length ≤ l.length := by
  have := mTake_le 4 ⟨l, false⟩
  unfold mS0; split <;> exact this
theorem mTxt_le (s : Sx) : (mTxt s).2.rest.length ≤ s.rest.length := Nat.le_trans (mTake_le _ _) (mNum_le s)
/-- What the bytes tell. -/
def mTold (l : List UInt8) : Mf :=
  ⟨(mNum (mS0 l)).1, (mTxt (mNum (mS0 l)).2).1, (mTxt (mTxt (mNum (mS0 l)).2).2).1, (mNum (mTxt (mTxt (mNum (mS0 l)).2).2).2).1, (mSums (mNum (mTxt (mTxt (mNum (mS0 l)).2).2).2).2).1⟩
/-- What is left of them. -/
def mLeft (l : List UInt8) : Sx :=
  if (mSums (mNum (mTxt (mTxt (mNum (mS0 l)).2).2).2).2).2.rest = [] then (mSums (mNum (mTxt (mTxt (mNum (mS0 l)).2).2).2).2).2 else ⟨(mSums (mNum (mTxt (mTxt (mNum (mS0 l)).2).2).2).2).2.rest, true⟩
set_option maxRecDepth 100000 in
set_option maxHeartbeats 4000000 in
theorem man_any (gg : Nat) (l : List UInt8) (w : World) (h : RX w gg ⟨l, false⟩) (hl : l.length ≤ 1000000000) :
    Calls Tryd.prog 41 #[.pointer (some ⟨gg, 0, none⟩)] w fun e w' => ∃ v, e = .returned (mfV (mTold l) v) ∧ OT w' w.heap.size v (mTold l).ch ∧ RX w' gg (mLeft l) ∧ w.grownBy w' (some gg) := by
  have hzm := Tryd.zeroMf
  have HLO : Hid (gg < w.heap.size) := h.lt
  obtain ⟨rx, hrx⟩ : ∃ rx, rx = w.heap.size := ⟨_, rfl⟩
  have HRX : Hid (rx = w.heap.size) := hrx
  obtain ⟨A0, hA0⟩ : ∃ A0, A0 = w.alloc (.cells #[.int .i64 0, .string ⟨#[]⟩, .string ⟨#[]⟩, .int .i64 0, .slice none 0 0] 37) := ⟨_, rfl⟩
  have hbA : Below w.heap.size w A0 := by rw [hA0]; exact (Below.refl _ w).alloc (Nat.le_refl _) _
  have hxA : A0.heap[rx]? = some (.cells #[.int .i64 0, .string ⟨#[]⟩, .string ⟨#[]⟩, .int .i64 0, .slice none 0 0] 37 (0, 0)) := by rw [hA0, hrx]; exact heap_alloc_new w _
  have HT : Hid (Calls _ _ _ _ _) := rtake_any gg 4 ⟨l, false⟩ A0 (h.kept hbA) hl (by decide)
  have hls := mS0_le l
  have l1 := mNum_le (mS0 l)
  have l2 := mTxt_le (mNum (mS0 l)).2
  have l3 := mTxt_le (mTxt (mNum (mS0 l)).2).2
  have l4 := mNum_le (mTxt (mTxt (mNum (mS0 l)).2).2).2
  have K1 : Hid (∀ W, RX W gg (mS0 l) → _) := fun W hW => rnum_any gg (mS0 l) W hW (by omega)
  have K2 : Hid (∀ W, RX W gg (mNum (mS0 l)).2 → _) := fun W hW => rtext_any gg (mNum (mS0 l)).2 W hW (by omega)
  have K3 : Hid (∀ W, RX W gg (mTxt (mNum (mS0 l)).2).2 → _) := fun W hW => rtext_any gg (mTxt (mNum (mS0 l)).2).2 W hW (by omega)
  have K4 : Hid (∀ W, RX W gg (mTxt (mTxt (mNum (mS0 l)).2).2).2 → _) := fun W hW => rnum_any gg (mTxt (mTxt (mNum (mS0 l)).2).2).2 W hW (by omega)
  have K5 : Hid (∀ W, RX W gg (mNum (mTxt (mTxt (mNum (mS0 l)).2).2).2).2 → Calls Tryd.prog 59 #[.pointer (some ⟨gg, 0, none⟩)] W fun e w' => ∃ va vc, e = .returned (.slice va (mSums (mNum (mTxt (mTxt (mNum (mS0 l)).2).2).2).2).1.length vc) ∧ OT w' W.heap.size (.slice va (mSums (mNum (mTxt (mTxt (mNum (mS0 l)).2).2).2).2).1.length vc) (mSums (mNum (mTxt (mTxt (mNum (mS0 l)).2).2).2).2).1 ∧ RX w' gg (mSums (mNum (mTxt (mTxt (mNum (mS0 l)).2).2).2).2).2 ∧ W.grownBy w' (some gg)) := fun W hW =>
    (rsums_any gg (mNum (mTxt (mTxt (mNum (mS0 l)).2).2).2).2 W hW (by omega)).mono fun e w' ⟨v, he, hO, hr, hg⟩ => by
      have hsh : ∃ a c, v = .slice a (mSums (mNum (mTxt (mTxt (mNum (mS0 l)).2).2).2).2).1.length c := by
        rcases hO.2 with ⟨rfl, h0⟩ | ⟨g', cap, cur, rfl, _⟩
        · exact ⟨none, 0, by rw [h0]⟩
        · exact ⟨_, cap, rfl⟩
      obtain ⟨a, c, rfl⟩ := hsh
      exact ⟨a, c, he, hO, hr, hg⟩
  have HS0 : Hid (mS0 l = if (mTake 4 ⟨l, false⟩).1 = [115, 110, 97, 112] then (mTake 4 ⟨l, false⟩).2 else ⟨(mTake 4 ⟨l, false⟩).2.rest, true⟩) := rfl
  unfold mTold mLeft mfV
  clear hls l1 l2 l3 l4
  generalize mS0 l = S0 at *
  generalize (mTake 4 ⟨l, false⟩).1 = X1 at *
  generalize (mTake 4 ⟨l, false⟩).2 = X2 at *
  generalize (mNum S0).1 = n1 at *
  generalize (mNum S0).2 = s1 at *
  generalize mkB (mTxt s1).1 = G1 at *
  generalize (mTxt s1).2 = s2 at *
  generalize mkB (mTxt s2).1 = P1 at *
  generalize (mTxt s2).2 = s3 at *
  generalize (mNum s3).1 = n2 at *
  generalize (mNum s3).2 = s4 at *
  generalize (mSums s4).1 = c1 at *
  generalize (mSums s4).2 = s5 at *
  obtain ⟨S6, hS6⟩ : ∃ S6, S6 = if s5.rest = [] then s5 else ⟨s5.rest, true⟩ := ⟨_, rfl⟩
  have HS6 : Hid (S6 = if s5.rest = [] then s5 else ⟨s5.rest, true⟩) := hS6
  rw [← hS6]
  clear hS6
  have hxl := mkB_list2 X1
  go_enter Tryd.func41, Tryd.ntmps41
  go_wp2_with fail
  rw [← hA0, ← hrx]
  clear hA0 hrx
  refine HT.out.mono ?_
  rintro e w1 ⟨rfl, hr1, hg1⟩
  have hX1 : w1.heap[rx]? = some (.cells #[.int .i64 0, .string ⟨#[]⟩, .string ⟨#[]⟩, .int .i64 0, .slice none 0 0] 37 (0, 0)) := (hg1.block _ (Array.getElem?_eq_some_iff.1 hxA).1 (fun e => by have := HRX.out; have := HLO.out; have := Option.some.inj e; omega)).trans hxA
  have hG1 : w.grownBy w1 (some gg) := gtrans (gbelow hbA) hg1
  clear hxA hbA HT hg1 h
  by_cases hsn : X1 = [115, 110, 97, 112]
  · have hS := HS0.out
    rw [if_pos hsn] at hS
    subst hS
    subst hsn
    have HR1 : Hid (RX w1 gg S0) := hr1
    have HX1 : Hid (w1.heap[rx]? = some (.cells #[.int .i64 0, .string ⟨#[]⟩, .string ⟨#[]⟩, .int .i64 0, .slice none 0 0] 37 (0, 0))) := hX1
    have HG1 : Hid (w.grownBy w1 (some gg)) := hG1
    clear hr1 hX1 hG1 HS0
    obtain ⟨W1, hW1⟩ : ∃ W1, W1 = w1 := ⟨_, rfl⟩
    subst hW1
    go_upto_region 4 with fail
    obtain ⟨bx, hbx⟩ : ∃ bx, bx = W1.heap.size := ⟨_, rfl⟩
    have hMD : MD w (W1.alloc (.cells #[.int .i64 0, .string ⟨#[]⟩, .string ⟨#[]⟩, .int .i64 0, .slice none 0 0] 37)) gg bx rx S0 #[.int .i64 0, .string ⟨#[]⟩, .string ⟨#[]⟩, .int .i64 0, .slice none 0 0] := by
      have hb : Below W1.heap.size W1 (W1.alloc (.cells #[.int .i64 0, .string ⟨#[]⟩, .string ⟨#[]⟩, .int .i64 0, .slice none 0 0] 37)) := (Below.refl _ _).alloc (Nat.le_refl _) _
      have h1 := (Array.getElem?_eq_some_iff.1 HX1.out).1
      have h2 := HG1.out.size
      have h3 := HLO.out
      have h4 := HRX.out
      exact ⟨HR1.out.kept hb, by rw [hbx]; exact heap_alloc_new W1 _, (hb.block _ h1).trans HX1.out, gtrans HG1.out (gbelow hb), by omega, by omega, by omega, by omega⟩
    have HM0 : Hid (MD w (W1.alloc (.cells #[.int .i64 0, .string ⟨#[]⟩, .string ⟨#[]⟩, .int .i64 0, .slice none 0 0] 37)) gg bx rx S0 #[.int .i64 0, .string ⟨#[]⟩, .string ⟨#[]⟩, .int .i64 0, .slice none 0 0]) := hMD
    rw [← hbx]
    clear hMD HR1 HX1 HG1 hbx
    generalize World.alloc W1 _ = V0 at *
    obtain ⟨⟨b0, b1, b2, b3, b4⟩, f0, f1, f2, f3, f4⟩ := five_cell HM0.out.bxh
    go_upto_region 5 with (go_at_call 57; refine (K1.out _ HM0.out.rd).mono ?_; rintro e V ⟨rfl, hr, hg⟩; have HC := HM0.out.call hr hg; have HCC : Hid (MD w V gg bx rx s1 _) := HC; obtain ⟨⟨b0, b1, b2, b3, b4⟩, f0, f1, f2, f3, f4⟩ := five_cell HC.bxh; clear HC)
    have HM1 : Hid (MD w (World.setCell V ⟨bx, 0, none⟩ (.int .i64 (n1 : Int))) gg bx rx s1 #[.int .i64 (n1 : Int), .string ⟨#[]⟩, .string ⟨#[]⟩, .int .i64 0, .slice none 0 0]) := HCC.out.set 0 (.int .i64 (n1 : Int))
    clear b0 b1 b2 b3 b4 f0 f1 f2 f3 f4
    clear HM0 HCC hr hg K1
    generalize World.setCell V _ _ = V1 at *
    obtain ⟨⟨b0, b1, b2, b3, b4⟩, f0, f1, f2, f3, f4⟩ := five_cell HM1.out.bxh
    go_upto_region 6 with (go_at_call 58; refine (K2.out _ HM1.out.rd).mono ?_; rintro e V ⟨rfl, hr, hg⟩; have HC := HM1.out.call hr hg; have HCC : Hid (MD w V gg bx rx s2 _) := HC; obtain ⟨⟨b0, b1, b2, b3, b4⟩, f0, f1, f2, f3, f4⟩ := five_cell HC.bxh; clear HC)
    have HM2 : Hid (MD w (World.setCell V ⟨bx, 1, none⟩ (.string G1)) gg bx rx s2 #[.int .i64 (n1 : Int), .string G1, .string ⟨#[]⟩, .int .i64 0, .slice none 0 0]) := HCC.out.set 1 (.string G1)
    clear b0 b1 b2 b3 b4 f0 f1 f2 f3 f4
    clear HM1 HCC hr hg K2
    generalize World.setCell V _ _ = V2 at *
    obtain ⟨⟨b0, b1, b2, b3, b4⟩, f0, f1, f2, f3, f4⟩ := five_cell HM2.out.bxh
    go_upto_region 7 with (go_at_call 58; refine (K3.out _ HM2.out.rd).mono ?_; rintro e V ⟨rfl, hr, hg⟩; have HC := HM2.out.call hr hg; have HCC : Hid (MD w V gg bx rx s3 _) := HC; obtain ⟨⟨b0, b1, b2, b3, b4⟩, f0, f1, f2, f3, f4⟩ := five_cell HC.bxh; clear HC)
    have HM3 : Hid (MD w (World.setCell V ⟨bx, 2, none⟩ (.string P1)) gg bx rx s3 #[.int .i64 (n1 : Int), .string G1, .string P1, .int .i64 0, .slice none 0 0]) := HCC.out.set 2 (.string P1)
    clear b0 b1 b2 b3 b4 f0 f1 f2 f3 f4
    clear HM2 HCC hr hg K3
    generalize World.setCell V _ _ = V3 at *
    obtain ⟨⟨b0, b1, b2, b3, b4⟩, f0, f1, f2, f3, f4⟩ := five_cell HM3.out.bxh
    go_upto_region 8 with (go_at_call 57; refine (K4.out _ HM3.out.rd).mono ?_; rintro e V ⟨rfl, hr, hg⟩; have HC := HM3.out.call hr hg; have HCC : Hid (MD w V gg bx rx s4 _) := HC; obtain ⟨⟨b0, b1, b2, b3, b4⟩, f0, f1, f2, f3, f4⟩ := five_cell HC.bxh; clear HC)
    have HM4 : Hid (MD w (World.setCell V ⟨bx, 3, none⟩ (.int .i64 (n2 : Int))) gg bx rx s4 #[.int .i64 (n1 : Int), .string G1, .string P1, .int .i64 (n2 : Int), .slice none 0 0]) := HCC.out.set 3 (.int .i64 (n2 : Int))
    clear b0 b1 b2 b3 b4 f0 f1 f2 f3 f4
    clear HM3 HCC hr hg K4
    generalize World.setCell V _ _ = V4 at *
    obtain ⟨⟨b0, b1, b2, b3, b4⟩, f0, f1, f2, f3, f4⟩ := five_cell HM4.out.bxh
    have hbs : bx < V4.heap.size ∧ rx < V4.heap.size := ⟨(Array.getElem?_eq_some_iff.1 HM4.out.bxh).1, (Array.getElem?_eq_some_iff.1 HM4.out.rxh).1⟩
    have HV4 : Hid (w.heap.size ≤ V4.heap.size) := HM4.out.bel.size
    go_upto_region 9 with (go_at_call 59; refine (K5.out _ HM4.out.rd).mono ?_; rintro e V ⟨va, vc, rfl, hO, hr, hg⟩; have HC := HM4.out.call hr hg; have HCC : Hid (MD w V gg bx rx s5 _) := HC; obtain ⟨⟨b0, b1, b2, b3, b4⟩, f0, f1, f2, f3, f4⟩ := five_cell HC.bxh; clear HC)
    have HO5 : Hid (OT (World.setCell V ⟨bx, 4, none⟩ (.slice va c1.length vc)) V4.heap.size (.slice va c1.length vc) c1) := hO.grown (gset (grefl V _) 4 _) hbs.1
    clear hO
    have HM5 : Hid (MD w (World.setCell V ⟨bx, 4, none⟩ (.slice va c1.length vc)) gg bx rx s5 #[.int .i64 (n1 : Int), .string G1, .string P1, .int .i64 (n2 : Int), .slice va c1.length vc]) := HCC.out.set 4 (.slice va c1.length vc)
    clear b0 b1 b2 b3 b4 f0 f1 f2 f3 f4
    clear HM4 HCC hr hg K5
    generalize World.setCell V _ _ = V5 at *
    obtain ⟨⟨b0, b1, b2, b3, b4⟩, f0, f1, f2, f3, f4⟩ := five_cell HM5.out.bxh
    have r0 := HM5.out.rd.c0
    have r1 := HM5.out.rd.c1
    have rf := HM5.out.rd.fz 1
    have hne := HM5.out.lo.2.2.1
    have hng : gg ≠ bx ∧ gg ≠ rx := by have := HM5.out.lo; omega
    obtain ⟨⟨x0, x1, x2, x3, x4⟩, y0, y1, y2, y3, y4⟩ := five_cell HM5.out.rxh
    have hsl := mkB_list2 s5.rest
    by_cases hre : s5.rest = []
    · have HS7 : Hid (S6 = s5) := by unfold Hid; rw [HS6.out, if_pos hre]
      have hre1 : (s5.rest == []) = true := by rw [hre]; rfl
      clear HS6
      generalize mkB s5.rest = BR at *
      rw [hre] at hsl
      go_upto_region 11 with fail
      go_wp2
      have hd := HM5.out.done HO5.out hbs.2 HV4.out (.int .i64 (n1 : Int)) (.string G1) (.string P1) (.int .i64 (n2 : Int)) (.slice va c1.length vc)
      unfold put5m at hd
      obtain ⟨q1, q2, q3, q4⟩ := hd
      generalize World.setCell (World.setCell (World.setCell (World.setCell (World.setCell V5 _ _) _ _) _ _) _ _) _ _ = W3 at *
      obtain ⟨⟨k0, k1, k2, k3, k4⟩, -⟩ := five_cell q1
      exact bodyPost_ret (v := .agg #[.int .i64 (n1 : Int), .string G1, .string P1, .int .i64 (n2 : Int), .slice va c1.length vc]) (by simp [results, Tryd.results41, go_sem, k0, k1, k2, k3, k4]) rfl ⟨_, rfl, q2, by rw [HS7.out]; exact q3, q4⟩
    · have HS7 : Hid (S6 = ⟨s5.rest, true⟩) := by unfold Hid; rw [HS6.out, if_neg hre]
      have hre1 : (s5.rest == []) = false := by cases hq : s5.rest with
        | nil => exact absurd hq hre
        | cons a b => rfl
      have HM6 : Hid (MD w (World.setCell V5 ⟨gg, 1, none⟩ (.bool true)) gg bx rx ⟨s5.rest, true⟩ _) := HM5.out.fail
      have HO6 : Hid (OT (World.setCell V5 ⟨gg, 1, none⟩ (.bool true)) V4.heap.size (.slice va c1.length vc) c1) := HO5.out.grown (gset (grefl V5 _) 1 _) (by have := HLO.out; have := HV4.out; omega)
      clear HS6 hre HO5
      generalize mkB s5.rest = BR at *
      go_upto_region 11 with fail
      clear HM5 b0 b1 b2 b3 b4 f0 f1 f2 f3 f4 r0 r1 rf x0 x1 x2 x3 x4 y0 y1 y2 y3 y4
      generalize World.setCell V5 _ _ = V6 at *
      obtain ⟨⟨b0, b1, b2, b3, b4⟩, f0, f1, f2, f3, f4⟩ := five_cell HM6.out.bxh
      obtain ⟨⟨x0, x1, x2, x3, x4⟩, y0, y1, y2, y3, y4⟩ := five_cell HM6.out.rxh
      go_wp2
      have hd := HM6.out.done HO6.out hbs.2 HV4.out (.int .i64 (n1 : Int)) (.string G1) (.string P1) (.int .i64 (n2 : Int)) (.slice va c1.length vc)
      unfold put5m at hd
      obtain ⟨q1, q2, q3, q4⟩ := hd
      generalize World.setCell (World.setCell (World.setCell (World.setCell (World.setCell V6 _ _) _ _) _ _) _ _) _ _ = W3 at *
      obtain ⟨⟨k0, k1, k2, k3, k4⟩, -⟩ := five_cell q1
      exact bodyPost_ret (v := .agg #[.int .i64 (n1 : Int), .string G1, .string P1, .int .i64 (n2 : Int), .slice va c1.length vc]) (by simp [results, Tryd.results41, go_sem, k0, k1, k2, k3, k4]) rfl ⟨_, rfl, q2, by rw [HS7.out]; exact q3, q4⟩
  · have hS := HS0.out
    rw [if_neg hsn] at hS
    have hsn1 : (X1 == [115, 110, 97, 112]) = false := by simpa using hsn
    have HR1 : Hid (RX (World.setCell w1 ⟨gg, 1, none⟩ (.bool true)) gg S0) := by unfold Hid; rw [hS]; exact hr1.set1 true
    have hgs : w1.grownBy (World.setCell w1 ⟨gg, 1, none⟩ (.bool true)) (some gg) := gset (grefl w1 _) 1 _
    have HX1 : Hid ((World.setCell w1 ⟨gg, 1, none⟩ (.bool true)).heap[rx]? = some (.cells #[.int .i64 0, .string ⟨#[]⟩, .string ⟨#[]⟩, .int .i64 0, .slice none 0 0] 37 (0, 0))) := (hgs.block _ (Array.getElem?_eq_some_iff.1 hX1).1 (fun e => by have := HRX.out; have := HLO.out; have := Option.some.inj e; omega)).trans hX1
    have HG1 : Hid (w.grownBy (World.setCell w1 ⟨gg, 1, none⟩ (.bool true)) (some gg)) := gtrans hG1 hgs
    have r1 := hr1.c1
    have rf := hr1.fz 1
    clear hr1 hX1 hG1 HS0 hgs hS hsn
    generalize mkB X1 = BX at *
    go_upto_region 3 with fail
    clear r1 rf
    generalize World.setCell w1 _ _ = W1 at *
    go_upto_region 4 with fail
    obtain ⟨bx, hbx⟩ : ∃ bx, bx = W1.heap.size := ⟨_, rfl⟩
    have hMD : MD w (W1.alloc (.cells #[.int .i64 0, .string ⟨#[]⟩, .string ⟨#[]⟩, .int .i64 0, .slice none 0 0] 37)) gg bx rx S0 #[.int .i64 0, .string ⟨#[]⟩, .string ⟨#[]⟩, .int .i64 0, .slice none 0 0] := by
      have hb : Below W1.heap.size W1 (W1.alloc (.cells #[.int .i64 0, .string ⟨#[]⟩, .string ⟨#[]⟩, .int .i64 0, .slice none 0 0] 37)) := (Below.refl _ _).alloc (Nat.le_refl _) _
      have h1 := (Array.getElem?_eq_some_iff.1 HX1.out).1
      have h2 := HG1.out.size
      have h3 := HLO.out
      have h4 := HRX.out
      exact ⟨HR1.out.kept hb, by rw [hbx]; exact heap_alloc_new W1 _, (hb.block _ h1).trans HX1.out, gtrans HG1.out (gbelow hb), by omega, by omega, by omega, by omega⟩
    have HM0 : Hid (MD w (W1.alloc (.cells #[.int .i64 0, .string ⟨#[]⟩, .string ⟨#[]⟩, .int .i64 0, .slice none 0 0] 37)) gg bx rx S0 #[.int .i64 0, .string ⟨#[]⟩, .string ⟨#[]⟩, .int .i64 0, .slice none 0 0]) := hMD
    rw [← hbx]
    clear hMD HR1 HX1 HG1 hbx
    generalize World.alloc W1 _ = V0 at *
    obtain ⟨⟨b0, b1, b2, b3, b4⟩, f0, f1, f2, f3, f4⟩ := five_cell HM0.out.bxh
    go_upto_region 5 with (go_at_call 57; refine (K1.out _ HM0.out.rd).mono ?_; rintro e V ⟨rfl, hr, hg⟩; have HC := HM0.out.call hr hg; have HCC : Hid (MD w V gg bx rx s1 _) := HC; obtain ⟨⟨b0, b1, b2, b3, b4⟩, f0, f1, f2, f3, f4⟩ := five_cell HC.bxh; clear HC)
    have HM1 : Hid (MD w (World.setCell V ⟨bx, 0, none⟩ (.int .i64 (n1 : Int))) gg bx rx s1 #[.int .i64 (n1 : Int), .string ⟨#[]⟩, .string ⟨#[]⟩, .int .i64 0, .slice none 0 0]) := HCC.out.set 0 (.int .i64 (n1 : Int))
    clear b0 b1 b2 b3 b4 f0 f1 f2 f3 f4
    clear HM0 HCC hr hg K1
    generalize World.setCell V _ _ = V1 at *
    obtain ⟨⟨b0, b1, b2, b3, b4⟩, f0, f1, f2, f3, f4⟩ := five_cell HM1.out.bxh
    go_upto_region 6 with (go_at_call 58; refine (K2.out _ HM1.out.rd).mono ?_; rintro e V ⟨rfl, hr, hg⟩; have HC := HM1.out.call hr hg; have HCC : Hid (MD w V gg bx rx s2 _) := HC; obtain ⟨⟨b0, b1, b2, b3, b4⟩, f0, f1, f2, f3, f4⟩ := five_cell HC.bxh; clear HC)
    have HM2 : Hid (MD w (World.setCell V ⟨bx, 1, none⟩ (.string G1)) gg bx rx s2 #[.int .i64 (n1 : Int), .string G1, .string ⟨#[]⟩, .int .i64 0, .slice none 0 0]) := HCC.out.set 1 (.string G1)
    clear b0 b1 b2 b3 b4 f0 f1 f2 f3 f4
    clear HM1 HCC hr hg K2
    generalize World.setCell V _ _ = V2 at *
    obtain ⟨⟨b0, b1, b2, b3, b4⟩, f0, f1, f2, f3, f4⟩ := five_cell HM2.out.bxh
    go_upto_region 7 with (go_at_call 58; refine (K3.out _ HM2.out.rd).mono ?_; rintro e V ⟨rfl, hr, hg⟩; have HC := HM2.out.call hr hg; have HCC : Hid (MD w V gg bx rx s3 _) := HC; obtain ⟨⟨b0, b1, b2, b3, b4⟩, f0, f1, f2, f3, f4⟩ := five_cell HC.bxh; clear HC)
    have HM3 : Hid (MD w (World.setCell V ⟨bx, 2, none⟩ (.string P1)) gg bx rx s3 #[.int .i64 (n1 : Int), .string G1, .string P1, .int .i64 0, .slice none 0 0]) := HCC.out.set 2 (.string P1)
    clear b0 b1 b2 b3 b4 f0 f1 f2 f3 f4
    clear HM2 HCC hr hg K3
    generalize World.setCell V _ _ = V3 at *
    obtain ⟨⟨b0, b1, b2, b3, b4⟩, f0, f1, f2, f3, f4⟩ := five_cell HM3.out.bxh
    go_upto_region 8 with (go_at_call 57; refine (K4.out _ HM3.out.rd).mono ?_; rintro e V ⟨rfl, hr, hg⟩; have HC := HM3.out.call hr hg; have HCC : Hid (MD w V gg bx rx s4 _) := HC; obtain ⟨⟨b0, b1, b2, b3, b4⟩, f0, f1, f2, f3, f4⟩ := five_cell HC.bxh; clear HC)
    have HM4 : Hid (MD w (World.setCell V ⟨bx, 3, none⟩ (.int .i64 (n2 : Int))) gg bx rx s4 #[.int .i64 (n1 : Int), .string G1, .string P1, .int .i64 (n2 : Int), .slice none 0 0]) := HCC.out.set 3 (.int .i64 (n2 : Int))
    clear b0 b1 b2 b3 b4 f0 f1 f2 f3 f4
    clear HM3 HCC hr hg K4
    generalize World.setCell V _ _ = V4 at *
    obtain ⟨⟨b0, b1, b2, b3, b4⟩, f0, f1, f2, f3, f4⟩ := five_cell HM4.out.bxh
    have hbs : bx < V4.heap.size ∧ rx < V4.heap.size := ⟨(Array.getElem?_eq_some_iff.1 HM4.out.bxh).1, (Array.getElem?_eq_some_iff.1 HM4.out.rxh).1⟩
    have HV4 : Hid (w.heap.size ≤ V4.heap.size) := HM4.out.bel.size
    go_upto_region 9 with (go_at_call 59; refine (K5.out _ HM4.out.rd).mono ?_; rintro e V ⟨va, vc, rfl, hO, hr, hg⟩; have HC := HM4.out.call hr hg; have HCC : Hid (MD w V gg bx rx s5 _) := HC; obtain ⟨⟨b0, b1, b2, b3, b4⟩, f0, f1, f2, f3, f4⟩ := five_cell HC.bxh; clear HC)
    have HO5 : Hid (OT (World.setCell V ⟨bx, 4, none⟩ (.slice va c1.length vc)) V4.heap.size (.slice va c1.length vc) c1) := hO.grown (gset (grefl V _) 4 _) hbs.1
    clear hO
    have HM5 : Hid (MD w (World.setCell V ⟨bx, 4, none⟩ (.slice va c1.length vc)) gg bx rx s5 #[.int .i64 (n1 : Int), .string G1, .string P1, .int .i64 (n2 : Int), .slice va c1.length vc]) := HCC.out.set 4 (.slice va c1.length vc)
    clear b0 b1 b2 b3 b4 f0 f1 f2 f3 f4
    clear HM4 HCC hr hg K5
    generalize World.setCell V _ _ = V5 at *
    obtain ⟨⟨b0, b1, b2, b3, b4⟩, f0, f1, f2, f3, f4⟩ := five_cell HM5.out.bxh
    have r0 := HM5.out.rd.c0
    have r1 := HM5.out.rd.c1
    have rf := HM5.out.rd.fz 1
    have hne := HM5.out.lo.2.2.1
    have hng : gg ≠ bx ∧ gg ≠ rx := by have := HM5.out.lo; omega
    obtain ⟨⟨x0, x1, x2, x3, x4⟩, y0, y1, y2, y3, y4⟩ := five_cell HM5.out.rxh
    have hsl := mkB_list2 s5.rest
    by_cases hre : s5.rest = []
    · have HS7 : Hid (S6 = s5) := by unfold Hid; rw [HS6.out, if_pos hre]
      have hre1 : (s5.rest == []) = true := by rw [hre]; rfl
      clear HS6
      generalize mkB s5.rest = BR at *
      rw [hre] at hsl
      go_upto_region 11 with fail
      go_wp2
      have hd := HM5.out.done HO5.out hbs.2 HV4.out (.int .i64 (n1 : Int)) (.string G1) (.string P1) (.int .i64 (n2 : Int)) (.slice va c1.length vc)
      unfold put5m at hd
      obtain ⟨q1, q2, q3, q4⟩ := hd
      generalize World.setCell (World.setCell (World.setCell (World.setCell (World.setCell V5 _ _) _ _) _ _) _ _) _ _ = W3 at *
      obtain ⟨⟨k0, k1, k2, k3, k4⟩, -⟩ := five_cell q1
      exact bodyPost_ret (v := .agg #[.int .i64 (n1 : Int), .string G1, .string P1, .int .i64 (n2 : Int), .slice va c1.length vc]) (by simp [results, Tryd.results41, go_sem, k0, k1, k2, k3, k4]) rfl ⟨_, rfl, q2, by rw [HS7.out]; exact q3, q4⟩
    · have HS7 : Hid (S6 = ⟨s5.rest, true⟩) := by unfold Hid; rw [HS6.out, if_neg hre]
      have hre1 : (s5.rest == []) = false := by cases hq : s5.rest with
        | nil => exact absurd hq hre
        | cons a b => rfl
      have HM6 : Hid (MD w (World.setCell V5 ⟨gg, 1, none⟩ (.bool true)) gg bx rx ⟨s5.rest, true⟩ _) := HM5.out.fail
      have HO6 : Hid (OT (World.setCell V5 ⟨gg, 1, none⟩ (.bool true)) V4.heap.size (.slice va c1.length vc) c1) := HO5.out.grown (gset (grefl V5 _) 1 _) (by have := HLO.out; have := HV4.out; omega)
      clear HS6 hre HO5
      generalize mkB s5.rest = BR at *
      go_upto_region 11 with fail
      clear HM5 b0 b1 b2 b3 b4 f0 f1 f2 f3 f4 r0 r1 rf x0 x1 x2 x3 x4 y0 y1 y2 y3 y4
      generalize World.setCell V5 _ _ = V6 at *
      obtain ⟨⟨b0, b1, b2, b3, b4⟩, f0, f1, f2, f3, f4⟩ := five_cell HM6.out.bxh
      obtain ⟨⟨x0, x1, x2, x3, x4⟩, y0, y1, y2, y3, y4⟩ := five_cell HM6.out.rxh
      go_wp2
      have hd := HM6.out.done HO6.out hbs.2 HV4.out (.int .i64 (n1 : Int)) (.string G1) (.string P1) (.int .i64 (n2 : Int)) (.slice va c1.length vc)
      unfold put5m at hd
      obtain ⟨q1, q2, q3, q4⟩ := hd
      generalize World.setCell (World.setCell (World.setCell (World.setCell (World.setCell V6 _ _) _ _) _ _) _ _) _ _ = W3 at *
      obtain ⟨⟨k0, k1, k2, k3, k4⟩, -⟩ := five_cell q1
      exact bodyPost_ret (v := .agg #[.int .i64 (n1 : Int), .string G1, .string P1, .int .i64 (n2 : Int), .slice va c1.length vc]) (by simp [results, Tryd.results41, go_sem, k0, k1, k2, k3, k4]) rfl ⟨_, rfl, q2, by rw [HS7.out]; exact q3, q4⟩
end Go.Proofs.YtecpapifkbfblaaDoor
