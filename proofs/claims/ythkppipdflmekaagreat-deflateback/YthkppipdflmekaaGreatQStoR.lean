/- Contract of the document's Stored. -/
import Derived.Test.YthkppipdflmekaaGreatQSto
import Derived.Test.YthkppipdflmekaaGreatQRefQ
set_option maxRecDepth 100000
set_option maxHeartbeats 1000000
namespace Go.Proofs.YthkppipdflmekaaGreat
open Go.RowKit
set_option linter.unusedVariables false
theorem qgb (a b : List Bool) (i : Nat) (h : i < a.length) : (a ++ b).getD i false = a.getD i false := by
 rw [List.getD_eq_getElem?_getD, List.getD_eq_getElem?_getD, List.getElem?_append_left h]
theorem qe9 (a b : List Bool) (i n : Nat) (hn : a.length = n) : (a ++ b).getD (n + i) false = b.getD i false := by
 subst hn
 rw [List.getD_eq_getElem?_getD, List.getD_eq_getElem?_getD, List.getElem?_append_right (by omega), Nat.add_sub_cancel_left]
theorem qdp (x s : Nat) : qal (fun i => x.testBit (s + i)) 8 = x / 2 ^ s % 256 := by
 rw [show (fun i => x.testBit (s + i)) = fun i => (x / 2 ^ s).testBit i by
  funext i; rw [Nat.testBit_div_two_pow, Nat.add_comm], qfv]
theorem qkn (f n m : Nat) (hf : f ≤ 1) : (qb8 ((qcs (lowB f 3) ++ lowB n 16) ++ lowB m 16)).data.toList = (f :: (putN n 2 ++ putN m 2)).map UInt8.ofNat := by
 have e8 : qcs (lowB f 3) = lowB f 8 := by rcases (show f = 0 ∨ f = 1 by omega) with rfl | rfl <;> rfl
 have l8 : (lowB f 8).length = 8 := qat _ _
 have l24 : (lowB f 8 ++ lowB n 16).length = 24 := by rw [List.length_append, qat, qat]
 rw [e8, qgn]
 unfold qhd
 rw [List.length_append, l24, qat, show (24 + 16 + 7) / 8 = 5 from rfl]
 simp only [List.range_succ, List.range_zero, List.nil_append, List.cons_append, List.map_cons, List.map_nil, putN]
 unfold qbe
 have t0 : qal (fun i => ((lowB f 8 ++ lowB n 16) ++ lowB m 16).getD (8 * 0 + i) false) 8 = f := by
  rw [qaz (g := fun i => f.testBit (0 + i)) 8 (fun i hi => by
   rw [show 8 * 0 + i = i by omega, qgb _ _ _ (by omega), qgb _ _ _ (by omega), qgt _ _ _ (by omega)]), qdp]
  omega
 have t1 : qal (fun i => ((lowB f 8 ++ lowB n 16) ++ lowB m 16).getD (8 * 1 + i) false) 8 = n / 256 ^ 0 % 256 := by
  rw [qaz (g := fun i => n.testBit (0 + i)) 8 (fun i hi => by
   rw [qgb _ _ _ (by omega), show 8 * 1 + i = 8 + i by omega, qe9 _ _ _ 8 l8, qgt _ _ _ (by omega)]; simp only [Nat.zero_add]), qdp]
 have t2 : qal (fun i => ((lowB f 8 ++ lowB n 16) ++ lowB m 16).getD (8 * 2 + i) false) 8 = n / 256 ^ 1 % 256 := by
  rw [qaz (g := fun i => n.testBit (8 + i)) 8 (fun i hi => by
   rw [qgb _ _ _ (by omega), show 8 * 2 + i = 8 + (8 + i) by omega, qe9 _ _ _ 8 l8, qgt _ _ _ (by omega)]), qdp]
 have t3 : qal (fun i => ((lowB f 8 ++ lowB n 16) ++ lowB m 16).getD (8 * 3 + i) false) 8 = m / 256 ^ 0 % 256 := by
  rw [qaz (g := fun i => m.testBit (0 + i)) 8 (fun i hi => by
   rw [show 8 * 3 + i = 24 + i by omega, qe9 _ _ _ 24 l24, qgt _ _ _ (by omega)]; simp only [Nat.zero_add]), qdp]
 have t4 : qal (fun i => ((lowB f 8 ++ lowB n 16) ++ lowB m 16).getD (8 * 4 + i) false) 8 = m / 256 ^ 1 % 256 := by
  rw [qaz (g := fun i => m.testBit (8 + i)) 8 (fun i hi => by
   rw [show 8 * 4 + i = 24 + (8 + i) by omega, qe9 _ _ _ 24 l24, qgt _ _ _ (by omega)]), qdp]
 rw [t0, t1, t2, t3, t4]
theorem qov : ∀ (k : Nat) (s : ByteArray) (w : World), s.size < k → s.size ≤ 10000000 → Calls Tryz.prog 9 #[.string s] w fun e w' => (∃ r, e = .returned (.string r) ∧ r.data.toList = stoF s.data.toList ∧ r.size ≤ 10 * s.size + 10) ∧ Below w.heap.size w w' := by
 intro k
 induction k with
 | zero => intro s w h; omega
 | succ k ih =>
  intro s w hk hs
  have HIH : Hid (∀ (s : ByteArray) (w : World), s.size < k → s.size ≤ 10000000 → Calls Tryz.prog 9 #[.string s] w fun e w' => (∃ r, e = .returned (.string r) ∧ r.data.toList = stoF s.data.toList ∧ r.size ≤ 10 * s.size + 10) ∧ Below w.heap.size w w') := ih
  have HO0 : Hid (OB (w.alloc (.cells #[] 4)) w.heap.size (.slice (some ⟨w.heap.size, 0, none⟩) 0 0) []) := ⟨w.heap.size, 0, rfl, World.ownsRow_lit w #[] 0 (Nat.le_refl _) (by decide) rfl⟩
  have HB0 : Hid (Below w.heap.size w (w.alloc (.cells #[] 4))) := (Below.refl _ w).alloc (Nat.le_refl _) _
  clear ih
  go_enter Tryz.func9, Tryz.ntmps9
  go_wp2
  generalize World.alloc w _ = W0 at *
  go_loopw [3] (fun v wr => v = .slice (some ⟨w.heap.size, 0, none⟩) 0 0 ∧ wr = W0) (fun _ _ => 0)
  case atStart => exact ⟨rfl, rfl⟩
  case round =>
   obtain ⟨rfl, rfl⟩ := hrel
   by_cases hbig : 65535 < s.size
   · have hb1 : min (s.size : Int) 65535 = 65535 := by omega
     have hb2 : ¬ (s.size : Int) ≤ 65535 := by omega
     have hb3 : ((65535 : Int) == (s.size : Int)) = false := by simp; omega
     have hse : (s.extract 0 65535).size = 65535 := by simp; omega
     have hsr : (s.extract 65535 s.size).size = s.size - 65535 := by simp
     have HD1 : Hid ((s.extract 0 65535).data.toList = s.data.toList.take 65535) := by unfold Hid; rw [qba]; rfl
     have HD2 : Hid ((s.extract 65535 s.size).data.toList = s.data.toList.drop 65535) := by
      unfold Hid
      rw [qba, List.take_of_length_le (by rw [List.length_drop, qad]; omega)]
     have HM : Hid (stoF s.data.toList = _) := qfy (by rw [qad]; exact hbig)
     have HHD : Hid (_ = _) := qkn 0 65535 (65535 - 65535) (by decide)
     go_wp2_with fail
     refine (qc4 _ [] w.heap.size 0 3 _ HO0.out (by decide) (by decide) (by decide)).mono ?_
     rintro e w1 ⟨v1, rfl, hO1, hb1'⟩
     rw [List.nil_append] at hO1
     have HB1 : Hid (Below w.heap.size w w1) := HB0.out.trans (hb1'.mono HB0.out.size)
     clear hb1' HB0 HO0
     go_wp2_with fail
     refine (qmk v1 _ _ w1 hO1 (by rw [qat]; decide)).mono ?_
     rintro e w2 ⟨v2, rfl, hO2, hb2'⟩
     have HB2 : Hid (Below w.heap.size w w2) := HB1.out.trans (hb2'.mono HB1.out.size)
     have hl2 : (qcs (lowB 0 3)).length = 8 := by decide
     clear hb2' HB1 hO1
     generalize qcs (lowB 0 3) = E8 at *
     go_wp2_with fail
     refine (qc4 v2 E8 _ 65535 16 w2 hO2 (by omega) (by omega) (by decide)).mono ?_
     rintro e w3 ⟨v3, rfl, hO3, hb3'⟩
     have HB3 : Hid (Below w.heap.size w w3) := HB2.out.trans (hb3'.mono HB2.out.size)
     have HL3 : Hid ((E8 ++ lowB 65535 16).length = 24) := by unfold Hid; rw [List.length_append, qat, hl2]
     have HPC : Hid (Calls _ _ _ _ _) := qc4 v3 _ _ (65535 - 65535) 16 w3 hO3 (by rw [HL3.out]; decide) (by omega) (by decide)
     clear hb3' HB2 hO2 hl2 hO3
     go_wp2_with fail
     refine (Hid.out HPC : Calls _ _ _ _ _).mono ?_
     rintro e w4 ⟨v4, rfl, hO4, hb4'⟩
     have HB4 : Hid (Below w.heap.size w w4) := HB3.out.trans (hb4'.mono HB3.out.size)
     have HL4 : Hid (((E8 ++ lowB 65535 16) ++ lowB (65535 - 65535) 16).length = 40) := by unfold Hid; rw [List.length_append, qat, HL3.out]
     clear hb4' HB3 HPC
     go_wp2_with fail
     refine (qmv v4 _ _ w4 hO4 (by rw [HL4.out]; decide)).mono ?_
     rintro e w5 ⟨rfl, hb5'⟩
     have HB5 : Hid (Below w.heap.size w w5) := HB4.out.trans (hb5'.mono HB4.out.size)
     have hps : (qb8 ((E8 ++ lowB 65535 16) ++ lowB (65535 - 65535) 16)).size = 5 := by rw [qdt, HL4.out]
     generalize qb8 ((E8 ++ lowB 65535 16) ++ lowB (65535 - 65535) 16) = H5 at *
     clear hb5' HB4 hO4 HL4 HL3
     have HI2 : Hid (Calls _ _ _ _ _) := HIH.out (s.extract 65535 s.size) w5 (by omega) (by omega)
     generalize hE1 : s.extract 0 65535 = S1 at *
     generalize hE2 : s.extract 65535 s.size = S2 at *
     go_wp2_with fail
     refine (Hid.out HI2 : Calls _ _ _ _ _).mono ?_
     rintro e w6 ⟨⟨r, rfl, hr, hr2⟩, hb6'⟩
     have HB6 : Hid (Below w.heap.size w w6) := HB5.out.trans (hb6'.mono HB5.out.size)
     have HR : Hid (((H5 ++ S1) ++ r).data.toList = stoF s.data.toList) := by
      unfold Hid
      rw [qfd, qfd, HM.out, HHD.out, hr, HD2.out, HD1.out]
      congr 1
      unfold sblk
      rw [List.length_take, qad, Nat.min_eq_left (by omega)]; rfl
     have HSZ : Hid (((H5 ++ S1) ++ r).size ≤ 10 * s.size + 10) := by unfold Hid; rw [ByteArray.size_append, ByteArray.size_append, hps]; omega
     clear HM HHD hr hb6' HI2 HD1 HD2 HIH
     go_wp2
     go_ret
     exact ⟨⟨_, rfl, HR.out, HSZ.out⟩, HB6.out⟩
   · have hb1 : min (s.size : Int) 65535 = (s.size : Int) := by omega
     have hb2 : (s.size : Int) ≤ 65535 := by omega
     have hb3 : ((s.size : Int) == (s.size : Int)) = true := by simp
     have HM : Hid (stoF s.data.toList = _) := qeg (by rw [qad]; exact hbig)
     have HHD : Hid (_ = _) := qkn 1 s.size (65535 - s.size) (by decide)
     go_wp2_with fail
     refine (qc4 _ [] w.heap.size 1 3 _ HO0.out (by decide) (by decide) (by decide)).mono ?_
     rintro e w1 ⟨v1, rfl, hO1, hb1'⟩
     rw [List.nil_append] at hO1
     have HB1 : Hid (Below w.heap.size w w1) := HB0.out.trans (hb1'.mono HB0.out.size)
     clear hb1' HB0 HO0
     go_wp2_with fail
     refine (qmk v1 _ _ w1 hO1 (by rw [qat]; decide)).mono ?_
     rintro e w2 ⟨v2, rfl, hO2, hb2'⟩
     have HB2 : Hid (Below w.heap.size w w2) := HB1.out.trans (hb2'.mono HB1.out.size)
     have hl2 : (qcs (lowB 1 3)).length = 8 := by decide
     clear hb2' HB1 hO1
     generalize qcs (lowB 1 3) = E8 at *
     go_wp2_with fail
     refine (qc4 v2 E8 _ s.size 16 w2 hO2 (by omega) (by omega) (by decide)).mono ?_
     rintro e w3 ⟨v3, rfl, hO3, hb3'⟩
     have HB3 : Hid (Below w.heap.size w w3) := HB2.out.trans (hb3'.mono HB2.out.size)
     have HL3 : Hid ((E8 ++ lowB s.size 16).length = 24) := by unfold Hid; rw [List.length_append, qat, hl2]
     have hsub : (65535 : Int) - (s.size : Int) = ((65535 - s.size : Nat) : Int) := by omega
     have HPC : Hid (Calls _ _ _ _ _) := qc4 v3 _ _ (65535 - s.size) 16 w3 hO3 (by rw [HL3.out]; decide) (by omega) (by decide)
     clear hb3' HB2 hO2 hl2 hO3
     go_wp2_with fail
     refine (Hid.out HPC : Calls _ _ _ _ _).mono ?_
     rintro e w4 ⟨v4, rfl, hO4, hb4'⟩
     have HB4 : Hid (Below w.heap.size w w4) := HB3.out.trans (hb4'.mono HB3.out.size)
     have HL4 : Hid (((E8 ++ lowB s.size 16) ++ lowB (65535 - s.size) 16).length = 40) := by unfold Hid; rw [List.length_append, qat, HL3.out]
     clear hb4' HB3 HPC
     go_wp2_with fail
     refine (qmv v4 _ _ w4 hO4 (by rw [HL4.out]; decide)).mono ?_
     rintro e w5 ⟨rfl, hb5'⟩
     have HB5 : Hid (Below w.heap.size w w5) := HB4.out.trans (hb5'.mono HB4.out.size)
     have hps : (qb8 ((E8 ++ lowB s.size 16) ++ lowB (65535 - s.size) 16)).size = 5 := by rw [qdt, HL4.out]
     generalize qb8 ((E8 ++ lowB s.size 16) ++ lowB (65535 - s.size) 16) = H5 at *
     clear hb5' HB4 hO4 HL4 HL3
     have HR : Hid ((H5 ++ s).data.toList = stoF s.data.toList) := by
      unfold Hid
      rw [qfd, HM.out, HHD.out]
      unfold sblk
      rw [qad]; rfl
     have HSZ : Hid ((H5 ++ s).size ≤ 10 * s.size + 10) := by unfold Hid; rw [ByteArray.size_append, hps]; omega
     clear HM HHD
     go_wp2
     go_ret
     exact ⟨⟨_, rfl, HR.out, HSZ.out⟩, HB5.out⟩
end Go.Proofs.YthkppipdflmekaaGreat
