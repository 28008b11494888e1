/- The law IndexReads: its walk. -/
import Derived.Test.YtpfjcdfhlcnlcaaIdxT
import Derived.Test.YtpfjcdfhlcnlcaaIdxC
import Derived.Test.YtpfjcdfhlcnlcaaAwk17
import Derived.Test.YtpfjcdfhlcnlcaaFew
namespace Go.Proofs.Ytpfjcdfhlcnlcaa
open Go.RowKit Go.Maps
set_option linter.unusedVariables false
set_option linter.unusedSimpArgs false

set_option maxRecDepth 100000 in
set_option maxHeartbeats 2000000 in
theorem reads_bad (s : ByteArray) (l : List UInt8) (w : World) (hs : s.size ≤ 9223372036854775807) (hl : s.extract 0 2000 = mkB l) (hll : l.length ≤ 2000) (hd : ¬ DecOk l) :
    Calls Try.prog 4 #[.string s] w fun e w' => e = .returned (.bool true) ∧ Below w.heap.size w w' := by
  have HF := few_any s 2000 w (by decide) hs
  rw [show Int.toNat 2000 = 2000 from rfl, hl] at HF
  have HD := decode_bad l w (by omega) hd
  have HR : Hid (∀ W, Calls Try.prog 16 #[.string (mkB l)] W fun e w' => (∃ a1 n1 c1 a2 n2 c2, e = .returned (.tuple #[.agg #[.slice a1 n1 c1, .slice a2 n2 c2], .bool false])) ∧ Below W.heap.size W w') := fun W =>
    (read_any l W (by omega)).mono fun e w' ⟨hp, hb⟩ => by
      refine ⟨?_, hb⟩
      rcases hp with ⟨ns, P, vp, vq, h1, _⟩ | ⟨_, h2⟩
      · exact absurd (read_dec h1).1 hd
      · exact h2
  have hzi := zeroRI
  clear hd hl
  generalize mkB l = L at *
  go_enter Try.func4, Try.ntmps4
  go_wp2_with fail
  refine HF.mono ?_
  rintro e w1 ⟨rfl, rfl⟩
  go_wp2_with fail
  refine HD.mono ?_
  rintro e w2 ⟨rfl, hb2⟩
  go_wp2_with fail
  refine (HR.out _).mono ?_
  rintro e w3 ⟨⟨a1, n1, c1, a2, n2, c2, rfl⟩, hb3⟩
  have hb3' := hb2.trans (hb3.mono hb2.size)
  go_wp2_with fail
  refine (awake17_any _).mono ?_
  rintro e w4 ⟨rfl, hb4⟩
  have hb5 := (hb3'.alloc hb3'.size (.cells #[.slice a1 n1 c1, .slice a2 n2 c2] 31)).trans (hb4.mono (by rw [World.size_alloc]; have := hb3'.size; omega))
  go_wp2
  go_ret
  exact ⟨rfl, hb5⟩
set_option maxRecDepth 100000 in
set_option maxHeartbeats 2000000 in
theorem reads_good (s : ByteArray) (l : List UInt8) (w : World) (hs : s.size ≤ 9223372036854775807) (hl : s.extract 0 2000 = mkB l) (hll : l.length ≤ 2000) (hd : DecOk l) :
    Calls Try.prog 4 #[.string s] w fun e w' => e = .returned (.bool true) ∧ Below w.heap.size w w' := by
  have HF := few_any s 2000 w (by decide) hs
  rw [show Int.toNat 2000 = 2000 from rfl, hl] at HF
  have HD := decode_good l w (by omega) hd
  obtain ⟨⟨hkd, hFk⟩, h3, h4⟩ := xIdx_ok l
  have hnx : ∀ x ∈ (xIdx l).1, x.length ≤ l.length := xPk_nx l.length _ _ [] (by have := (xNum_le ⟨l, false⟩).1; exact this) (fun x hx => by cases hx)
  have hadl := adPs_len (xIdx l).1
  have HR : Hid (∀ W, Calls Try.prog 16 #[.string (mkB l)] W fun e w' => (∃ a1 c1 a2 c2, e = .returned (.tuple #[.agg #[.slice a1 (adPs (xIdx l).1).length c1, .slice a2 (plsI (xIdx l).2.1).length c2], .bool true]) ∧ TS w' (.slice a1 (adPs (xIdx l).1).length c1) (adPs (xIdx l).1) ∧ PV w' (.slice a2 (plsI (xIdx l).2.1).length c2) (plsI (xIdx l).2.1)) ∧ Below W.heap.size W w') := fun W =>
    (read_any l W (by omega)).mono fun e w' ⟨hp, hb⟩ => by
      refine ⟨?_, hb⟩
      have h9 := dec_read (by omega) hd
      rcases hp with ⟨ns, P, vp, vq, h1, he, hT, hP⟩ | ⟨h2, _⟩
      · rw [h9] at h1
        obtain ⟨rfl, rfl⟩ := Prod.mk.inj (Option.some.inj h1)
        obtain ⟨a1, c1, rfl, _⟩ := id hT
        obtain ⟨a2, c2, rfl, _⟩ := id hP
        exact ⟨a1, c1, a2, c2, he, hT, hP⟩
      · rw [h9] at h2; cases h2
  have HE : Hid (encI (adPs (xIdx l).1) (xIdx l).2.1 = l) := hd.2
  have HIS : Hid (∀ q p, lkA (xIdx l).2.1 q = some p → p.h.n = q ∧ q.length ≤ 140737488351232) := fun q p hq => by
    obtain ⟨_, _, h5, h6⟩ := hFk q p hq
    exact ⟨h5, by rw [isNm_len h6]; omega⟩
  have HEN : Hid (∀ (x : Nat) (m1 m2 : Option Nat) (W : World), IXo W x m1 m2 (adPs (xIdx l).1) (xIdx l).2.1 → (adPs (xIdx l).1).Nodup → Calls Try.prog 12 #[.pointer (some ⟨x, 0, none⟩)] W fun e w' => e = .returned (.string (mkB (encI (adPs (xIdx l).1) (xIdx l).2.1))) ∧ Below W.heap.size W w') := fun x m1 m2 W h hnd => encD_any l.length W h hnd (by omega) hnx ⟨hkd, hFk⟩ h3 h4
  have hzi := zeroRI
  clear hd hl hnx hkd hFk
  generalize adPs (xIdx l).1 = ps at *
  generalize (xIdx l).2.1 = F at *
  go_enter Try.func4, Try.ntmps4
  go_wp2_with fail
  refine HF.mono ?_
  rintro e w1 ⟨rfl, rfl⟩
  go_wp2_with fail
  refine HD.mono ?_
  rintro e w2 ⟨y, rfl, hI2, hy, hb2⟩
  have HI2 : Hid (IX w2 y (fun k => k < w1.heap.size) ps F) := hI2
  clear hI2 HD HF
  go_wp2_with fail
  refine (HR.out _).mono ?_
  rintro e w3 ⟨⟨a1, c1, a2, c2, rfl, hT, hP⟩, hb3⟩
  have HI3 : Hid (IX w3 y (fun k => k < w1.heap.size) ps F) := IX.below HI2.out hb3
  have hb3' := hb2.trans (hb3.mono hb2.size)
  obtain ⟨V, hV⟩ : ∃ V, V = w3.alloc (.cells #[.slice a1 ps.length c1, .slice a2 (plsI F).length c2] 31) := ⟨_, rfl⟩
  have hbV : Below w3.heap.size w3 V := by rw [hV]; exact (Below.refl _ w3).alloc (Nat.le_refl _) _
  have hbW : Below w1.heap.size w1 V := hb3'.trans (hbV.mono hb3'.size)
  have hcV : V.heap[w3.heap.size]? = some (.cells #[.slice a1 ps.length c1, .slice a2 (plsI F).length c2] 31 (0, 0)) := by rw [hV]; exact heap_alloc_new w3 _
  have HT : Hid (TS V (.slice a1 ps.length c1) ps) := TS.below hT hbV
  have HP : Hid (PV V (.slice a2 (plsI F).length c2) (plsI F)) := PV.below hP hbV
  have HIV : Hid (IX V y (fun k => k < w1.heap.size) ps F) := IX.below HI3.out hbV
  clear HI2 HI3 hT hP hb2 hb3 hb3' hbV HR
  go_wp2_with fail
  rw [← hV]
  refine (awake17_any _).mono ?_
  rintro e w4 ⟨rfl, hb4⟩
  have hlt : w3.heap.size < V.heap.size := (Array.getElem?_eq_some_iff.1 hcV).1
  have k0 : w4.cell? ⟨w3.heap.size, 0, none⟩ = some (.slice a1 ps.length c1) := (hb4.cell (p := ⟨w3.heap.size, 0, none⟩) hlt).trans (by rw [cell_of_row _ _ _ _ _ _ hcV]; rfl)
  have k1 : w4.cell? ⟨w3.heap.size, 1, none⟩ = some (.slice a2 (plsI F).length c2) := (hb4.cell (p := ⟨w3.heap.size, 1, none⟩) hlt).trans (by rw [cell_of_row _ _ _ _ _ _ hcV]; rfl)
  have HI4 : Hid (IX w4 y (fun k => k < w1.heap.size) ps F) := IX.below HIV.out hb4
  have HT4 : Hid (TS w4 (.slice a1 ps.length c1) ps) := TS.below HT.out hb4
  have HP4 : Hid (PV w4 (.slice a2 (plsI F).length c2) (plsI F)) := PV.below HP.out hb4
  have hbX : Hid (Below w1.heap.size w1 w4) := hbW.trans (hb4.mono hbW.size)
  clear hb4 hbW HIV HT HP hcV hV hlt
  go_wp2_with fail
  obtain ⟨m1, m2, hX⟩ := IX.o HI4.out
  refine (is_any _ _ w4 hX HT4.out HP4.out (IX.kd HI4.out).2 HIS.out (by omega) (by omega)).mono ?_
  rintro e w5 ⟨rfl, hb5⟩
  have HI5 : Hid (IX w5 y (fun k => k < w1.heap.size) ps F) := IX.below HI4.out hb5
  have hbY : Hid (Below w1.heap.size w1 w5) := hbX.out.trans (hb5.mono hbX.out.size)
  clear hX hb5 hbX HT4 HP4 k0 k1 HI4
  go_wp2_with fail
  obtain ⟨m3, m4, hX⟩ := IX.o HI5.out
  refine (HEN.out y m3 m4 w5 hX (IX.kd HI5.out).2).mono ?_
  rw [HE.out]
  rintro e w6 ⟨rfl, hb6⟩
  have hbZ : Hid (Below w1.heap.size w1 w6) := hbY.out.trans (hb6.mono hbY.out.size)
  clear hX hb6 HI5 hbY
  generalize mkB l = L at *
  go_wp2
  go_ret
  exact ⟨rfl, hbZ.out⟩
theorem lawIndexReads_walk (a0 : ByteArray) (W : World) (b0 : a0.size ≤ 140737488351232) :
    Calls Try.prog 4 #[.string a0] W fun e w' => e = .returned (.bool true) ∧ Below W.heap.size W w' := by
  have hl : a0.extract 0 2000 = mkB (a0.data.toList.take 2000) := mkB_inj _ _ (few_data a0 2000)
  have hll : (a0.data.toList.take 2000).length ≤ 2000 := by rw [List.length_take]; omega
  by_cases hd : DecOk (a0.data.toList.take 2000)
  · exact reads_good a0 _ W (by omega) hl hll hd
  · exact reads_bad a0 _ W (by omega) hl hll hd
end Go.Proofs.Ytpfjcdfhlcnlcaa
