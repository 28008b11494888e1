/- Contract of the document's dynamic. -/
import Derived.Test.YthkppipdflmekaaGreatQRDynM
import Derived.Test.YthkppipdflmekaaGreatQInfB
import Derived.Deep.AppendLies
import Derived.Deep.CutBlock
import Derived.Test.YthkppipdflmekaaGreatQArmW
import Derived.Test.YthkppipdflmekaaGreatQRTkM
import Derived.Test.YthkppipdflmekaaGreatQRReg
set_option maxRecDepth 100000
set_option maxHeartbeats 40000000
namespace Go.Proofs.YthkppipdflmekaaGreat
open Go.RowKit
set_option linter.unusedVariables false
set_option linter.unusedSimpArgs false
theorem qy8 (g c p o m B : Nat) (L : List Bool) (w : World) (hO : OB w B (.slice (some ⟨g, 0, none⟩) L.length c) L) (hN : L.length ≤ 80000) (hp : p ≤ L.length) (ho : o ≤ m) (hm : m ≤ 65536) :
    Calls Tryz.prog 41 #[sn g L.length c p o m 0] w fun x w' => ∃ (q e1 : Nat) (v1 v2 : Value), x = .returned (.tuple #[sn g L.length c q o m e1, v1, v2]) ∧ ((e1 = 0 ∧ ∃ ls ds : List Nat, dynG (fun i => L.getD i false) L.length p = .ok (ls, ds, q) ∧ IG w' w.heap.size v1 (zz ls) ∧ IG w' w.heap.size v2 (zz ds) ∧ ls.length ≤ 320 ∧ ds.length ≤ 320 ∧ q ≤ L.length) ∨ (e1 ≠ 0 ∧ dynG (fun i => L.getD i false) L.length p = .error e1 ∧ v1 = .slice none 0 0 ∧ v2 = .slice none 0 0)) ∧ Below w.heap.size w w' := by
 have HS0 : Hid (SB w _ B g c L w.heap.size (w.heap.size + 1) p o m 0) := SB.start hO p o m 0
 obtain ⟨i0, hi0, hz0, hz1, hz2⟩ := info_parts Tryz.infoI
 have hmk : ∀ W : World, (Instr.makeSlice 39 (.int .i64 19) (.int .i64 19)).run Tryz.prog W = .ok (.slice (some ⟨W.heap.size, 0, none⟩) 19 19) (W.alloc (.cells (madeCells #[.int .i64 0] 19) 3)) := qix 19 (by decide)
 clear hO
 unfold snC sn0 at HS0
 simp only [show ((0 : Nat) : Int) = 0 from rfl] at HS0
 go_enter Tryz.func41, Tryz.ntmps41
 unfold sn
 go_upto_region 1 with fail
 generalize World.alloc (World.alloc w _) _ = W0 at *
 obtain ⟨⟨a0, a1, a2, a3, a4⟩, b0, b1, b2, b3, b4⟩ := qaa HS0.out.bxh
 simp only [show ((0 : Nat) : Int) = 0 from rfl] at a4
 go_wp2_with fail
 refine (qcv g c p o m 0 5 B 0 rfl 5 rfl L W0 HS0.out.ob (by omega) (by omega) (by decide)).mono ?_
 rintro x V ⟨p1, e1, a, rfl, hq, hb⟩
 clear a0 a1 a2 a3 a4 b0 b1 b2 b3 b4
 have hs := HS0.out.call hb
 obtain ⟨⟨a0, a1, a2, a3, a4⟩, b0, b1, b2, b3, b4⟩ := qaa hs.bxh
 have HS1 : Hid (SB w _ B g c L w.heap.size (w.heap.size + 1) p1 o m e1) := hs.put p1 o m e1
 unfold put5 at HS1
 have HA : Hid (Num L p 0 5 p1 e1 a) := hq
 have hla := HA.out.le (by omega) (by decide)
 clear hq
 clear hb hs HS0
 go_upto_region 2 with fail
 generalize World.setCell _ _ _ = W1 at *
 clear a0 a1 a2 a3 a4 b0 b1 b2 b3 b4
 obtain ⟨⟨a0, a1, a2, a3, a4⟩, b0, b1, b2, b3, b4⟩ := qaa HS1.out.bxh
 go_wp2_with fail
 refine (qcv g c p1 o m e1 5 B (e1 : Int) rfl 5 rfl L W1 HS1.out.ob (by omega) (by omega) (by decide)).mono ?_
 rintro x V ⟨p2, e2, b, rfl, hq, hb⟩
 clear a0 a1 a2 a3 a4 b0 b1 b2 b3 b4
 have hs := HS1.out.call hb
 obtain ⟨⟨a0, a1, a2, a3, a4⟩, b0, b1, b2, b3, b4⟩ := qaa hs.bxh
 have HS2 : Hid (SB w _ B g c L w.heap.size (w.heap.size + 1) p2 o m e2) := hs.put p2 o m e2
 unfold put5 at HS2
 have HBN : Hid (Num L p1 e1 5 p2 e2 b) := hq
 have hlb := HBN.out.le (by omega) (by decide)
 clear hq
 clear hb hs HS1
 go_upto_region 3 with fail
 generalize World.setCell _ _ _ = W2 at *
 clear a0 a1 a2 a3 a4 b0 b1 b2 b3 b4
 obtain ⟨⟨a0, a1, a2, a3, a4⟩, b0, b1, b2, b3, b4⟩ := qaa HS2.out.bxh
 go_wp2_with fail
 refine (qcv g c p2 o m e2 4 B (e2 : Int) rfl 4 rfl L W2 HS2.out.ob (by omega) (by omega) (by decide)).mono ?_
 rintro x V ⟨p3, e3, cc, rfl, hq, hb⟩
 clear a0 a1 a2 a3 a4 b0 b1 b2 b3 b4
 have hs := HS2.out.call hb
 obtain ⟨⟨a0, a1, a2, a3, a4⟩, b0, b1, b2, b3, b4⟩ := qaa hs.bxh
 have HS3 : Hid (SB w _ B g c L w.heap.size (w.heap.size + 1) p3 o m e3) := hs.put p3 o m e3
 unfold put5 at HS3
 have HC : Hid (Num L p2 e2 4 p3 e3 cc) := hq
 have hlc := HC.out.le (by omega) (by decide)
 clear hq
 clear hb hs HS2
 go_upto_region 4 with fail
 generalize World.setCell _ _ _ = W3 at *
 clear a0 a1 a2 a3 a4 b0 b1 b2 b3 b4
 go_cut [40] (fun _ wx => ∃ e4 : Nat, SB w wx B g c L w.heap.size (w.heap.size + 1) p3 o m e4 ∧ Hid (e4 = if (29 < a ∨ 29 < b) ∧ e3 = 0 then 3 else e3))
 case first =>
  by_cases h1 : 29 < a
  · have h1i : (29 : Int) < (a : Int) := by omega
    obtain ⟨⟨a0, a1, a2, a3, a4⟩, b0, b1, b2, b3, b4⟩ := qaa HS3.out.bxh
    go_wp2_with fail
    refine (qbi g L.length c p3 o m e3 (e3 : Int) rfl true 3 3 rfl W3).mono ?_
    rintro x V ⟨e4, rfl, he4, hb⟩
    clear a0 a1 a2 a3 a4 b0 b1 b2 b3 b4
    have hs := HS3.out.call hb
    obtain ⟨⟨a0, a1, a2, a3, a4⟩, b0, b1, b2, b3, b4⟩ := qaa hs.bxh
    have HS4 : Hid (SB w _ B g c L w.heap.size (w.heap.size + 1) p3 o m e4) := hs.put p3 o m e4
    unfold put5 at HS4
    clear hb hs HS3
    go_wp2
    go_meet
    exact ⟨e4, HS4.out, he4.out.trans (by simp [h1])⟩
  · by_cases h2 : 29 < b
    · have h1i : ¬ (29 : Int) < (a : Int) := by omega
      have h2i : (29 : Int) < (b : Int) := by omega
      obtain ⟨⟨a0, a1, a2, a3, a4⟩, b0, b1, b2, b3, b4⟩ := qaa HS3.out.bxh
      go_wp2_with fail
      refine (qbi g L.length c p3 o m e3 (e3 : Int) rfl true 3 3 rfl W3).mono ?_
      rintro x V ⟨e4, rfl, he4, hb⟩
      clear a0 a1 a2 a3 a4 b0 b1 b2 b3 b4
      have hs := HS3.out.call hb
      obtain ⟨⟨a0, a1, a2, a3, a4⟩, b0, b1, b2, b3, b4⟩ := qaa hs.bxh
      have HS4 : Hid (SB w _ B g c L w.heap.size (w.heap.size + 1) p3 o m e4) := hs.put p3 o m e4
      unfold put5 at HS4
      clear hb hs HS3
      go_wp2
      go_meet
      exact ⟨e4, HS4.out, he4.out.trans (by simp [h1, h2])⟩
    · have h1i : ¬ (29 : Int) < (a : Int) := by omega
      have h2i : ¬ (29 : Int) < (b : Int) := by omega
      obtain ⟨⟨a0, a1, a2, a3, a4⟩, b0, b1, b2, b3, b4⟩ := qaa HS3.out.bxh
      go_wp2_with fail
      refine (qbi g L.length c p3 o m e3 (e3 : Int) rfl false 3 3 rfl W3).mono ?_
      rintro x V ⟨e4, rfl, he4, hb⟩
      clear a0 a1 a2 a3 a4 b0 b1 b2 b3 b4
      have hs := HS3.out.call hb
      obtain ⟨⟨a0, a1, a2, a3, a4⟩, b0, b1, b2, b3, b4⟩ := qaa hs.bxh
      have HS4 : Hid (SB w _ B g c L w.heap.size (w.heap.size + 1) p3 o m e4) := hs.put p3 o m e4
      unfold put5 at HS4
      clear hb hs HS3
      go_wp2
      go_meet
      exact ⟨e4, HS4.out, he4.out.trans (by simp [h1, h2])⟩
 case rest =>
  obtain ⟨e4, hS, HE4⟩ := hcut
  have HS4 : Hid (SB w wc B g c L w.heap.size (w.heap.size + 1) p3 o m e4) := hS
  have HT3 : Hid (_ ∧ _) := qwx HA.out HBN.out HC.out HE4.out
  clear hS HS3 HA HBN HC HE4
  have HS5 : Hid (DY w (wc.alloc (.cells (madeCells #[.int .i64 0] 19) 3)) B g c L w.heap.size (w.heap.size + 1) p3 o m e4 wc.heap.size (fstL (fun i => L.getD i false) (p + 14) 0)) := ⟨HS4.out.call ((Below.refl _ wc).alloc (Nat.le_refl _) _), by rw [qnr (fun i => L.getD i false) (p + 14)]; exact heap_alloc_new wc _, HS4.out.bel.size⟩
  clear HS4
  go_upto_region 6 with fail
  generalize World.alloc wc _ = W5 at *
  generalize hgf : wc.heap.size = gf at *
  have HS6 : Hid (DY w (W5.alloc (.cells (nc ordL).toArray 3)) B g c L w.heap.size (w.heap.size + 1) p3 o m e4 gf (fstL (fun i => L.getD i false) (p + 14) 0)) := HS5.out.call ((Below.refl _ W5).alloc (Nat.le_refl _) _)
  have HO6 : Hid ((W5.alloc (.cells (nc ordL).toArray 3)).heap[W5.heap.size]? = some (.cells (nc ordL).toArray 3 (0, 0))) := heap_alloc_new W5 _
  have hgo : gf ≠ W5.heap.size := fun e => by have := qay HS5.out.fh; omega
  have HF6 : Hid (FsIn L p cc e4 0 p3 e4 (fstL (fun i => L.getD i false) (p + 14) 0)) := by
   refine ⟨qd4 _ _ _, ?_⟩
   by_cases h : e4 = 0
   · have := HT3.out.2 h
     exact .inl ⟨h, h, by rw [Nat.zero_min]; omega, by omega, by rw [Nat.zero_min]⟩
   · exact .inr ⟨h, HT3.out.1 h⟩
  clear HS5 hgf
  go_wp2
  go_loopw [44] (fun i W => ∃ (k p' e' : Nat) (F : List Nat), k ≤ 19 ∧ i = .int .i64 (k : Int) ∧ DY w W B g c L w.heap.size (w.heap.size + 1) p' o m e' gf F ∧ W.heap[W5.heap.size]? = some (.cells (nc ordL).toArray 3 (0, 0)) ∧ Hid (FsIn L p cc e4 k p' e' F) ∧ p' ≤ L.length + 100) (fun i _ => 19 - (intOf i).toNat)
  case atStart => exact ⟨0, p3, e4, _, by omega, rfl, HS6.out, HO6.out, HF6, by omega⟩
  case round =>
   clear HS6 HO6 HF6
   obtain ⟨k, p', e', F, hk, rfl, hS, hO, HF, hp'⟩ := hrel
   have HS7 : Hid (DY w wr B g c L w.heap.size (w.heap.size + 1) p' o m e' gf F) := hS
   have HO7 : Hid (wr.heap[W5.heap.size]? = some (.cells (nc ordL).toArray 3 (0, 0))) := hO
   generalize W5.heap.size = go at *
   clear hS hO
   generalize hW7 : wr = W7 at *
   clear hW7
   by_cases hlt : k < 19
   · have hki : (k : Int) < 19 := by omega
     obtain ⟨hs1, hs19⟩ := qrb ⟨k, hlt⟩
     simp only at hs19
     have hoc : W7.cell? ⟨go, k, none⟩ = some (.int .i64 ((ordL.getD k 0 : Nat) : Int)) := by
      have : W7.cell? ⟨go, k, none⟩ = (nc ordL).toArray[k]? := cell_of_row _ _ _ _ _ _ HO7.out
      rw [this, List.getElem?_toArray]
      unfold nc
      rw [List.getElem?_map, List.getD_eq_getElem?_getD, List.getElem?_eq_getElem (show k < ordL.length from hlt)]; rfl
     clear hs1
     obtain ⟨s, hs⟩ : ∃ s, s = ordL.getD k 0 := ⟨_, rfl⟩
     have HSE : Hid (s = ordL.getD k 0) := hs
     rw [← hs] at hoc hs19
     have hsi : (s : Int) < 19 := by omega
     clear hs
     by_cases hc : k < cc + 4
     · have hci : (k : Int) < (cc : Int) + 4 := by omega
       go_upto_region 11 with fail
       clear hoc
       obtain ⟨⟨a0, a1, a2, a3, a4⟩, b0, b1, b2, b3, b4⟩ := qaa HS7.out.sb.bxh
       go_wp2_with fail
       refine (qcv g c p' o m e' 3 B (e' : Int) rfl 3 rfl L W7 HS7.out.sb.ob (by omega) (by omega) (by decide)).mono ?_
       rintro x V ⟨p2', e2', v, rfl, hq, hb⟩
       clear a0 a1 a2 a3 a4 b0 b1 b2 b3 b4
       have hs := HS7.out.call hb
       obtain ⟨⟨a0, a1, a2, a3, a4⟩, b0, b1, b2, b3, b4⟩ := qaa hs.sb.bxh
       have HS8 : Hid (DY w _ B g c L w.heap.size (w.heap.size + 1) p2' o m e2' gf F) := hs.put p2' o m e2'
       unfold put5 at HS8
       have HV : Hid (Num L p' e' 3 p2' e2' v) := hq
       have HO8 : Hid ((put5 V w.heap.size (.slice (some ⟨g, 0, none⟩) L.length c) (.int .i64 (p2' : Int)) (.int .i64 (o : Int)) (.int .i64 (m : Int)) (.int .i64 (e2' : Int))).heap[go]? = some (.cells (nc ordL).toArray 3 (0, 0))) := ((qar V w.heap.size _ _ _ _ _).block _ (qay ((hb.block _ (qay HO7.out)).trans HO7.out)) (fun e => by have h9 := (hb.block _ (qay HO7.out)).trans HO7.out; exact qxz h9 hs.sb.bxh (by decide) (Option.some.inj e))).trans ((hb.block _ (qay HO7.out)).trans HO7.out)
       unfold put5 at HO8
       clear hq HO7
       clear hb hs HS7
       go_upto_region 12 with fail
       generalize World.setCell _ _ _ = W8 at *
       clear a0 a1 a2 a3 a4 b0 b1 b2 b3 b4
       have hls : s < F.length := by rw [HF.out.1]; exact hs19
       have hfc : W8.cell? ⟨gf, s, none⟩ = some (.int .i64 ((F.getD s 0 : Nat) : Int)) := by
        have : W8.cell? ⟨gf, s, none⟩ = (nc F).toArray[s]? := cell_of_row _ _ _ _ _ _ HS8.out.fh
        rw [this, List.getElem?_toArray]
        unfold nc
        rw [List.getElem?_map, List.getD_eq_getElem?_getD, List.getElem?_eq_getElem hls]; rfl
       have hff : W8.frozen? ⟨gf, s, none⟩ = false := frozen_of_row _ _ _ _ _ HS8.out.fh
       generalize F.getD s 0 = old at hfc
       have HS9 : Hid (DY w (W8.setCell ⟨gf, s, none⟩ (.int .i64 (v : Int))) B g c L w.heap.size (w.heap.size + 1) p2' o m e2' gf (F.set s v)) := HS8.out.first s v
       have HO9 : Hid ((W8.setCell ⟨gf, s, none⟩ (.int .i64 (v : Int))).heap[go]? = some (.cells (nc ordL).toArray 3 (0, 0))) := ((gset (qcj W8 (some gf)) s _).block _ (qay HO8.out) (fun e => hgo (Option.some.inj e).symm)).trans HO8.out
       have HF9 : Hid (FsIn L p cc e4 (k + 1) p2' e2' (F.set s v)) := by
        have := HF.out.step hc (fun h => (HT3.out.2 h).2.2.1) HV.out hlt (a := a) (b := b) (fun h => by have := HT3.out.2 h; exact ⟨this.1, this.2.1, this.2.2.2.2.2⟩)
        rw [← HSE.out] at this; exact this
       have hp9 := (HV.out.le hp' (by decide)).1
       clear HS8 HO8
       go_wp2
       go_roundw
       case rel => exact ⟨k + 1, p2', e2', _, by omega, by go_num, HS9.out, HO9.out, HF9, hp9⟩
       case measure => simp [intOf]; omega
     · have hci : ¬ (k : Int) < (cc : Int) + 4 := by omega
       have HF9 : Hid (FsIn L p cc e4 (k + 1) p' e' F) := HF.out.skip hc
       go_wp2
       go_roundw
       case rel => exact ⟨k + 1, p', e', F, by omega, by go_num, HS7.out, HO7.out, HF9, hp'⟩
       case measure => simp [intOf]; omega
   · have hki : ¬ (k : Int) < 19 := by omega
     obtain rfl : k = 19 := by omega
     clear HO7
     go_upto_region 14 with fail
     go_cut [63] (fun _ wx => ∃ e5 : Nat, DY w wx B g c L w.heap.size (w.heap.size + 1) p' o m e5 gf F ∧ Hid (e5 = if fitE F = false ∧ e' = 0 then 3 else e'))
     case first =>
      have HFT : Hid (Calls Tryz.prog 68 #[.slice (some ⟨gf, 0, none⟩) 19 19] W7.drew fun e w' => e = .returned (.int .i64 (errN (zz F) : Int)) ∧ w' = W7.drew) := qeh _ (zz F) W7.drew (qhw HS7.out.drew.fh 19 HF.out.1.symm) (by rw [qa4, HF.out.1]; decide)
      obtain ⟨⟨a0, a1, a2, a3, a4⟩, b0, b1, b2, b3, b4⟩ := qaa HS7.out.sb.bxh
      by_cases hf : fitE F = true
      · rw [(qbx hf).1] at HFT
        have HWR : Hid (∀ W, Calls _ _ _ W _) := fun W => qbi g L.length c p' o m e' (e' : Int) rfl false 3 3 rfl W
        go_region_with (first | (go_at_call 68; refine (Hid.out HFT : Calls _ _ _ _ _).mono ?_; rintro x V ⟨rfl, hw'⟩; cases hw') | (go_at_call 42; refine (HWR.out _).mono ?_; rintro x V ⟨e5, rfl, he5, hb⟩; have hs := HS7.out.drew.call hb; have ⟨⟨a0', a1', a2', a3', a4'⟩, b0', b1', b2', b3', b4'⟩ := qaa hs.sb.bxh))
        all_goals
         have HQ : Hid _ := hs.put p' o m e5
         clear hs hb
         go_wp2
         go_meet
         exact ⟨e5, HQ.out, he5.out.trans (by simp [hf])⟩
      · have hf' : fitE F = false := by simpa using hf
        have hne := ql5 hf'
        generalize errN (zz F) = er at HFT hne
        have hei : ((er : Int) != 0) = true := by simp; omega
        have HWR : Hid (∀ W, Calls _ _ _ W _) := fun W => qbi g L.length c p' o m e' (e' : Int) rfl true 3 3 rfl W
        go_region_with (first | (go_at_call 68; refine (Hid.out HFT : Calls _ _ _ _ _).mono ?_; rintro x V ⟨rfl, hw'⟩; cases hw') | (go_at_call 42; refine (HWR.out _).mono ?_; rintro x V ⟨e5, rfl, he5, hb⟩; have hs := HS7.out.drew.call hb; have ⟨⟨a0', a1', a2', a3', a4'⟩, b0', b1', b2', b3', b4'⟩ := qaa hs.sb.bxh))
        all_goals
         have HQ : Hid _ := hs.put p' o m e5
         clear hs hb
         go_wp2
         go_meet
         exact ⟨e5, HQ.out, he5.out.trans (by simp [hf'])⟩
     case rest =>
      obtain ⟨e5, hS, HE5⟩ := hcut
      have HS9 : Hid (DY w wc B g c L w.heap.size (w.heap.size + 1) p' o m e5 gf F) := hS
      have HDF : Hid (_ ∧ _) := qwy HF.out HE5.out (a := a) (b := b) (fun h => by have := HT3.out.2 h; exact ⟨this.1, this.2.1, this.2.2.1, this.2.2.2.2.2⟩)
      have HFL : Hid (F.length = 19) := HF.out.1
      clear hS HE5 HF HT3 HS7
      have HOZ : Hid ((wc.alloc (.cells #[] 3)).ownsRow wc.heap.size 3 1 (.slice (some ⟨wc.heap.size, 0, none⟩) 0 0) 0 []) := World.ownsRow_lit wc #[] 0 (Nat.le_refl _) (by decide) rfl
      have HS10 : Hid (DY w (wc.alloc (.cells #[] 3)) B g c L w.heap.size (w.heap.size + 1) p' o m e5 gf F) := HS9.out.call ((Below.refl _ wc).alloc (Nat.le_refl _) _)
      have hs0 : gf < wc.heap.size ∧ w.heap.size ≤ wc.heap.size := ⟨qay HS9.out.fh, HS9.out.sb.bel.size⟩
      have hsz0 : wc.heap.size ≤ (wc.alloc (.cells #[] 3)).heap.size := by rw [World.size_alloc]; omega
      clear HS9
      go_upto_region 16 with fail
      generalize World.alloc wc _ = W10 at *
      generalize wc.heap.size = s0 at *
      by_cases he5 : e5 = 0
      · subst he5
        obtain ⟨hfit, hpl, ha29, hb29, hdyn⟩ := HDF.out.2 rfl
        have HDY : Hid (_ = _) := hdyn
        obtain ⟨hF0, hFL⟩ := qbx hfit
        have HTB : Hid (Calls _ _ _ _ _) := qgj _ (zz F) W10 (qhw HS10.out.fh 19 HFL.out.symm) (by rw [qa4, HFL.out]; decide) (q31 F hFL.1)
        obtain ⟨⟨a0, a1, a2, a3, a4⟩, b0, b1, b2, b3, b4⟩ := qaa HS10.out.sb.bxh
        simp only [show ((0 : Nat) : Int) = 0 from rfl] at a4
        clear hdyn HDF
        go_upto_region 18 with fail
        clear a0 a1 a2 a3 a4 b0 b1 b2 b3 b4
        go_wp2_with fail
        refine (Hid.out HTB : Calls _ _ _ _ _).mono ?_
        rintro x V ⟨vt, rfl, ⟨hot, hnt⟩, hb⟩
        obtain ⟨ta, tc, rfl⟩ := qam hot
        have hzl : (zz F).length = 19 := by rw [qa4]; exact HFL.out
        rw [qhx, hzl] at hot
        rw [hzl] at hnt ⊢
        clear hzl
        have HZ0 : Hid (DZ w V B g c L w.heap.size (w.heap.size + 1) p' o m 0 gf F s0 (.slice ta 19 tc) (.slice (some ⟨s0, 0, none⟩) 0 0) []) := ⟨HS10.out.call hb, qvy hot HS10.out.sb.bel.size, qb2 HOZ.out hb, hs0, Nat.le_trans hsz0 hb.size⟩
        have hnt2 : Hid (¬ (Value.slice ta 19 tc) = .slice none 0 0) := hnt
        clear hot hnt hb HTB HOZ HS10
        go_wp2
        go_loopw [12] (fun vl W => ∃ (k p e : Nat) (row : List Nat), DZ w W B g c L w.heap.size (w.heap.size + 1) p o m e gf F s0 (.slice ta 19 tc) vl row ∧ row.length ≤ 1000 ∧ ((e = 0 ∧ p ≤ L.length ∧ L.length + 1 ≤ k + p ∧ rowF F (fun i => L.getD i false) L.length (a + b + 258) k p row = rowF F (fun i => L.getD i false) L.length (a + b + 258) (L.length + 1) p' []) ∨ (e ≠ 0 ∧ rowF F (fun i => L.getD i false) L.length (a + b + 258) (L.length + 1) p' [] = .error e))) (fun _ W => q16 W w.heap.size L.length)
        case atStart => exact ⟨L.length + 1, p', 0, [], HZ0.out, by simp, .inl ⟨rfl, hpl, by omega, rfl⟩⟩
        case round =>
         clear HZ0
         generalize rowF F (fun i => L.getD i false) L.length (a + b + 258) (L.length + 1) p' [] = r at *
         obtain ⟨k, q, e, row, hZ, hrow, hcase⟩ := hrel
         obtain ⟨la, lc, rfl⟩ := qam hZ.out
         have HMS := hZ.dy.sb.leftD L.length
         have HZ1 : Hid (DZ w wr B g c L w.heap.size (w.heap.size + 1) q o m e gf F s0 (.slice ta 19 tc) (.slice la row.length lc) row) := hZ
         generalize hW11 : wr = W11 at *
         clear hW11 hZ
         obtain ⟨n, hn⟩ : ∃ n, n = row.length := ⟨_, rfl⟩
         have HNR : Hid (n = row.length) := hn
         rw [← hn] at HZ1 hrow ⊢
         clear hn
         by_cases hgo : e = 0 ∧ n < a + b + 258
         · obtain ⟨rfl, hlt⟩ := hgo
           have HRK : Hid (∃ k1, k = k1 + 1 ∧ q ≤ L.length ∧ L.length + 1 ≤ k + q ∧ rowF F (fun i => L.getD i false) L.length (a + b + 258) k q row = r) := by
            rcases hcase with ⟨_, h2, h3, h4⟩ | ⟨h, _⟩
            · exact ⟨k - 1, by omega, h2, h3, h4⟩
            · exact absurd rfl h
           obtain ⟨k1, rfl, hq, hk, hr⟩ := HRK.out
           rw [rowF, if_neg (by rw [← HNR.out]; omega)] at hr
           have HR : Hid (_ = r) := hr
           have hlti : (n : Int) < (a : Int) + (b : Int) + 258 := by omega
           have hltw : IntKind.i64.wrap ((a : Int) + (b : Int)) = (a : Int) + (b : Int) := by rw [IntKind.wrap_i64]; omega
           clear hr hcase HRK
           obtain ⟨⟨a0, a1, a2, a3, a4⟩, b0, b1, b2, b3, b4⟩ := qaa HZ1.out.dy.sb.bxh
           simp only [show ((0 : Nat) : Int) = 0 from rfl] at a4
           have HSYM : Hid (Calls _ _ _ _ _) := qu9 g c q o m 0 B 0 rfl L _ _ F W11 HZ1.out.dy.sb.ob (qhw HZ1.out.dy.fh 19 HFL.out.symm) (by rw [qa4, HFL.out]; exact UR.of HZ1.out.tb hnt2.out) hfit (by omega) (fun _ => hq)
           go_upto_region 21 with fail
           clear a0 a1 a2 a3 a4 b0 b1 b2 b3 b4
           obtain ⟨⟨a0, a1, a2, a3, a4⟩, b0, b1, b2, b3, b4⟩ := qaa HZ1.out.dy.sb.bxh
           simp only [show ((0 : Nat) : Int) = 0 from rfl] at a4
           go_wp2_with fail
           refine (Hid.out HSYM : Calls _ _ _ _ _).mono ?_
           rintro x V ⟨q1, e1, s, rfl, hS, hb⟩
           clear a0 a1 a2 a3 a4 b0 b1 b2 b3 b4 HSYM
           have hs := HZ1.out.call hb
           obtain ⟨⟨a0, a1, a2, a3, a4⟩, b0, b1, b2, b3, b4⟩ := qaa hs.dy.sb.bxh
           have HZ2 : Hid (DZ w _ B g c L w.heap.size (w.heap.size + 1) q1 o m e1 gf F s0 (.slice ta 19 tc) (.slice la n lc) row) := hs.put q1 o m e1
           unfold put5 at HZ2
           have hsl := hS.out.lt hfit (by omega) (fun _ => hq)
           clear hb hs HZ1
           go_upto_region 22 with fail
           generalize World.setCell _ _ _ = W12 at *
           clear a0 a1 a2 a3 a4 b0 b1 b2 b3 b4
           have HRN : Hid (RowN F L (a + b + 258) k1 q row = r) := HR.out
           go_upto_block 4 with fail
           go_cut [14, 15, 16, 17] (fun s14 s15 s16 s17 wx => ∃ (p3 e3 ag wh : Nat), s16 = .int .i64 (ag : Int) ∧ s17 = .int .i64 (wh : Int) ∧ ag ≤ 200 ∧ p3 ≤ L.length + 100 ∧ DZ w wx B g c L w.heap.size (w.heap.size + 1) p3 o m e3 gf F s0 (.slice ta 19 tc) (.slice la n lc) row ∧ Hid (SwR F L (a + b + 258) k1 q row r p3 e3 ag wh))
           case first =>
            clear HR HMS
            by_cases he1 : e1 = 0
            · subst he1
              have HNX : Hid (_ = _) := sw_nx hS.out
              have hnq := qdj hFL.1 hq HNX.out
              by_cases h16 : s = 16
              · have k16 : ((s : Int) == 16) = true := by subst h16; rfl
                have H16 : Hid (s = 16) := h16
                clear h16
                by_cases hn0 : n = 0
                · have hni : ((n : Int) == 0) = true := by subst hn0; rfl
                  have hnp : ¬ (0 : Int) < (n : Int) := by omega
                  have HN0 : Hid (n = 0) := hn0
                  clear hn0
                  obtain ⟨⟨a0, a1, a2, a3, a4⟩, b0, b1, b2, b3, b4⟩ := qaa HZ2.out.dy.sb.bxh
                  simp only [show ((0 : Nat) : Int) = 0 from rfl] at a4
                  go_wp2_with fail
                  refine (qbi g L.length c q1 o m 0 0 rfl _ 3 3 rfl W12).mono ?_
                  rintro x V ⟨e2, rfl, he2, hb⟩
                  clear a0 a1 a2 a3 a4 b0 b1 b2 b3 b4
                  have hs := HZ2.out.call hb
                  obtain ⟨⟨a0, a1, a2, a3, a4⟩, b0, b1, b2, b3, b4⟩ := qaa hs.dy.sb.bxh
                  have HZ3 : Hid (DZ w _ B g c L w.heap.size (w.heap.size + 1) q1 o m e2 gf F s0 (.slice ta 19 tc) (.slice la n lc) row) := hs.put q1 o m e2
                  unfold put5 at HZ3
                  clear hb hs HZ2
                  go_upto_region 26 with fail
                  generalize World.setCell _ _ _ = W13 at *
                  clear a0 a1 a2 a3 a4 b0 b1 b2 b3 b4
                  obtain ⟨⟨a0, a1, a2, a3, a4⟩, b0, b1, b2, b3, b4⟩ := qaa HZ3.out.dy.sb.bxh
                  go_wp2_with fail
                  refine (qcv g c q1 o m e2 2 B (e2 : Int) rfl 2 rfl L W13 HZ3.out.dy.sb.ob (by omega) (by omega) (by decide)).mono ?_
                  rintro x V ⟨q2, e3, v, rfl, hv, hb⟩
                  clear a0 a1 a2 a3 a4 b0 b1 b2 b3 b4
                  have hs := HZ3.out.call hb
                  obtain ⟨⟨a0, a1, a2, a3, a4⟩, b0, b1, b2, b3, b4⟩ := qaa hs.dy.sb.bxh
                  have HZ4 : Hid (DZ w _ B g c L w.heap.size (w.heap.size + 1) q2 o m e3 gf F s0 (.slice ta 19 tc) (.slice la n lc) row) := hs.put q2 o m e3
                  unfold put5 at HZ4
                  have HV : Hid (Num L q1 e2 2 q2 e3 v) := hv
                  have hq2 := (HV.out.le hsl.2 (by decide)).1
                  have hvl := HV.out.lt
                  clear hv
                  clear hb hs HZ3
                  go_upto_region 27 with fail
                  generalize World.setCell _ _ _ = W14 at *
                  clear a0 a1 a2 a3 a4 b0 b1 b2 b3 b4
                  have hvl2 : v < 4 := hvl
                  obtain ⟨ag, hag⟩ : ∃ ag, ag = 3 + v := ⟨_, rfl⟩
                  have HAG : Hid (ag = 3 + v) := hag
                  have hagi : (3 : Int) + (v : Int) = (ag : Int) := by omega
                  have hagb : ag ≤ 200 := by omega
                  clear hag hvl
                  have HLEAF : Hid (SwR F L (a + b + 258) k1 q row r q2 e3 ag s) := by
                   have h1 := HV.out
                   have h2 : e2 = 3 := he2.out.trans (if_pos (by simp [HN0.out]))
                   obtain ⟨_, h3, _⟩ := h1.on (by omega)
                   exact .inr ⟨by omega, by rw [h3, h2]; exact q1u HRN.out (by rw [HNX.out, H16.out]) (by rw [← HNR.out]; exact HN0.out)⟩
                  go_wp2
                  go_meet
                  exact ⟨q2, e3, ag, s, rfl, rfl, by omega, hq2, HZ4.out, HLEAF.out⟩
                · have hni : ((n : Int) == 0) = false := by simp; omega
                  have hnp : (0 : Int) < (n : Int) := by omega
                  obtain ⟨gl, hla, hnc, hgl, hcl⟩ := HZ2.out.cell HNR.out (by omega)
                  subst hla
                  clear hnc hgl hcl
                  obtain ⟨⟨a0, a1, a2, a3, a4⟩, b0, b1, b2, b3, b4⟩ := qaa HZ2.out.dy.sb.bxh
                  simp only [show ((0 : Nat) : Int) = 0 from rfl] at a4
                  go_wp2_with fail
                  refine (qbi g L.length c q1 o m 0 0 rfl _ 3 3 rfl W12).mono ?_
                  rintro x V ⟨e2, rfl, he2, hb⟩
                  clear a0 a1 a2 a3 a4 b0 b1 b2 b3 b4
                  have hs := HZ2.out.call hb
                  obtain ⟨⟨a0, a1, a2, a3, a4⟩, b0, b1, b2, b3, b4⟩ := qaa hs.dy.sb.bxh
                  have HZ3 : Hid (DZ w _ B g c L w.heap.size (w.heap.size + 1) q1 o m e2 gf F s0 (.slice ta 19 tc) (.slice (some ⟨gl, 0, none⟩) n lc) row) := hs.put q1 o m e2
                  unfold put5 at HZ3
                  clear hb hs HZ2
                  go_upto_region 26 with fail
                  generalize World.setCell _ _ _ = W13 at *
                  clear a0 a1 a2 a3 a4 b0 b1 b2 b3 b4
                  obtain ⟨⟨a0, a1, a2, a3, a4⟩, b0, b1, b2, b3, b4⟩ := qaa HZ3.out.dy.sb.bxh
                  go_wp2_with fail
                  refine (qcv g c q1 o m e2 2 B (e2 : Int) rfl 2 rfl L W13 HZ3.out.dy.sb.ob (by omega) (by omega) (by decide)).mono ?_
                  rintro x V ⟨q2, e3, v, rfl, hv, hb⟩
                  clear a0 a1 a2 a3 a4 b0 b1 b2 b3 b4
                  have hs := HZ3.out.call hb
                  obtain ⟨⟨a0, a1, a2, a3, a4⟩, b0, b1, b2, b3, b4⟩ := qaa hs.dy.sb.bxh
                  have HZ4 : Hid (DZ w _ B g c L w.heap.size (w.heap.size + 1) q2 o m e3 gf F s0 (.slice ta 19 tc) (.slice (some ⟨gl, 0, none⟩) n lc) row) := hs.put q2 o m e3
                  unfold put5 at HZ4
                  have HV : Hid (Num L q1 e2 2 q2 e3 v) := hv
                  have hq2 := (HV.out.le hsl.2 (by decide)).1
                  have hvl := HV.out.lt
                  clear hv
                  clear hb hs HZ3
                  go_upto_region 27 with fail
                  generalize World.setCell _ _ _ = W14 at *
                  clear a0 a1 a2 a3 a4 b0 b1 b2 b3 b4
                  have hvl2 : v < 4 := hvl
                  obtain ⟨ag, hag⟩ : ∃ ag, ag = 3 + v := ⟨_, rfl⟩
                  have HAG : Hid (ag = 3 + v) := hag
                  have hagi : (3 : Int) + (v : Int) = (ag : Int) := by omega
                  have hagb : ag ≤ 200 := by omega
                  clear hag hvl
                  obtain ⟨gl2, hla, hnc, hgl, hcl⟩ := HZ4.out.cell HNR.out (by omega)
                  obtain ⟨n1, hn1⟩ : ∃ n1, n1 = n - 1 := ⟨_, rfl⟩
                  have hn1i : (n : Int) - 1 = (n1 : Int) := by omega
                  have hn1l : (n1 : Int) < (n : Int) := by omega
                  have clast := hcl n1 (by omega)
                  have hgg : gl2 = gl := by injection hla with hla; injection hla with h1; exact h1.symm
                  subst hgg
                  have HLEAF : Hid (SwR F L (a + b + 258) k1 q row r q2 e3 ag (row.getD n1 0)) := by
                   have h2 : e2 = 0 := he2.out.trans (if_neg (fun h => by cases h.1))
                   have h1 := HV.out
                   rw [h2] at h1
                   have := qqj HRN.out HNX.out hFL.1 hq hk (fun h => hn0 (by rw [HNR.out]; exact h.2)) (p3 := q2) (e3 := e3) (v := v) (by rw [H16.out]; exact h1)
                   rw [H16.out] at this
                   rw [HAG.out, hn1, HNR.out]
                   exact this
                  clear hla hnc hgl hcl hn1
                  generalize row.getD n1 0 = lastv at *
                  go_wp2
                  go_meet
                  exact ⟨q2, e3, ag, lastv, rfl, rfl, by omega, hq2, HZ4.out, HLEAF.out⟩
              · have k16 : ((s : Int) == 16) = false := by simp; omega
                by_cases h17 : s = 17
                · have k17 : ((s : Int) == 17) = true := by subst h17; rfl
                  have H17 : Hid (s = 17) := h17
                  clear h17
                  obtain ⟨⟨a0, a1, a2, a3, a4⟩, b0, b1, b2, b3, b4⟩ := qaa HZ2.out.dy.sb.bxh
                  simp only [show ((0 : Nat) : Int) = 0 from rfl] at a4
                  go_wp2_with fail
                  refine (qcv g c q1 o m 0 3 B 0 rfl 3 rfl L W12 HZ2.out.dy.sb.ob (by omega) (by omega) (by decide)).mono ?_
                  rintro x V ⟨q2, e3, v, rfl, hv, hb⟩
                  clear a0 a1 a2 a3 a4 b0 b1 b2 b3 b4
                  have hs := HZ2.out.call hb
                  obtain ⟨⟨a0, a1, a2, a3, a4⟩, b0, b1, b2, b3, b4⟩ := qaa hs.dy.sb.bxh
                  have HZ4 : Hid (DZ w _ B g c L w.heap.size (w.heap.size + 1) q2 o m e3 gf F s0 (.slice ta 19 tc) (.slice la n lc) row) := hs.put q2 o m e3
                  unfold put5 at HZ4
                  have HV : Hid (Num L q1 0 3 q2 e3 v) := hv
                  have hq2 := (HV.out.le hsl.2 (by decide)).1
                  have hvl := HV.out.lt
                  clear hv
                  clear hb hs HZ2
                  go_upto_region 32 with fail
                  generalize World.setCell _ _ _ = W14 at *
                  clear a0 a1 a2 a3 a4 b0 b1 b2 b3 b4
                  have hvl2 : v < 8 := hvl
                  obtain ⟨ag, hag⟩ : ∃ ag, ag = 3 + v := ⟨_, rfl⟩
                  have HAG : Hid (ag = 3 + v) := hag
                  have hagi : (3 : Int) + (v : Int) = (ag : Int) := by omega
                  have hagb : ag ≤ 200 := by omega
                  clear hag hvl
                  have HLEAF : Hid (SwR F L (a + b + 258) k1 q row r q2 e3 ag 0) := by
                   have := qqj HRN.out HNX.out hFL.1 hq hk (fun h => h16 h.1) (p3 := q2) (e3 := e3) (v := v) (by rw [H17.out]; exact HV.out)
                   rw [H17.out] at this
                   rw [HAG.out]; exact this
                  go_wp2
                  go_meet
                  exact ⟨q2, e3, ag, 0, rfl, rfl, by omega, hq2, HZ4.out, HLEAF.out⟩
                · have k17 : ((s : Int) == 17) = false := by simp; omega
                  by_cases h18 : s = 18
                  · have k18 : ((s : Int) == 18) = true := by subst h18; rfl
                    have H18 : Hid (s = 18) := h18
                    clear h18
                    obtain ⟨⟨a0, a1, a2, a3, a4⟩, b0, b1, b2, b3, b4⟩ := qaa HZ2.out.dy.sb.bxh
                    simp only [show ((0 : Nat) : Int) = 0 from rfl] at a4
                    go_wp2_with fail
                    refine (qcv g c q1 o m 0 7 B 0 rfl 7 rfl L W12 HZ2.out.dy.sb.ob (by omega) (by omega) (by decide)).mono ?_
                    rintro x V ⟨q2, e3, v, rfl, hv, hb⟩
                    clear a0 a1 a2 a3 a4 b0 b1 b2 b3 b4
                    have hs := HZ2.out.call hb
                    obtain ⟨⟨a0, a1, a2, a3, a4⟩, b0, b1, b2, b3, b4⟩ := qaa hs.dy.sb.bxh
                    have HZ4 : Hid (DZ w _ B g c L w.heap.size (w.heap.size + 1) q2 o m e3 gf F s0 (.slice ta 19 tc) (.slice la n lc) row) := hs.put q2 o m e3
                    unfold put5 at HZ4
                    have HV : Hid (Num L q1 0 7 q2 e3 v) := hv
                    have hq2 := (HV.out.le hsl.2 (by decide)).1
                    have hvl := HV.out.lt
                    clear hv
                    clear hb hs HZ2
                    go_upto_region 36 with fail
                    generalize World.setCell _ _ _ = W14 at *
                    clear a0 a1 a2 a3 a4 b0 b1 b2 b3 b4
                    have hvl2 : v < 128 := hvl
                    obtain ⟨ag, hag⟩ : ∃ ag, ag = 11 + v := ⟨_, rfl⟩
                    have HAG : Hid (ag = 11 + v) := hag
                    have hagi : (11 : Int) + (v : Int) = (ag : Int) := by omega
                    have hagb : ag ≤ 200 := by omega
                    clear hag hvl
                    have HLEAF : Hid (SwR F L (a + b + 258) k1 q row r q2 e3 ag 0) := by
                     have := qqj HRN.out HNX.out hFL.1 hq hk (fun h => h16 h.1) (p3 := q2) (e3 := e3) (v := v) (by rw [H18.out]; exact HV.out)
                     rw [H18.out] at this
                     rw [HAG.out]; exact this
                    go_wp2
                    go_meet
                    exact ⟨q2, e3, ag, 0, rfl, rfl, by omega, hq2, HZ4.out, HLEAF.out⟩
                  · have k18 : ((s : Int) == 18) = false := by simp; omega
                    have HLEAF : Hid (SwR F L (a + b + 258) k1 q row r q1 0 1 s) := q1v HRN.out HNX.out hFL.1 hq hk h16 h17 h18
                    go_wp2
                    go_meet
                    exact ⟨q1, 0, 1, s, rfl, rfl, by omega, hsl.2, HZ2.out, HLEAF.out⟩
            · obtain ⟨rfl, hre⟩ := q4b HRN.out hS.out he1
              have HLEAF : Hid (SwR F L (a + b + 258) k1 q row r q1 e1 1 0) := .inr ⟨he1, hre⟩
              clear hre
              go_wp2
              go_meet
              exact ⟨q1, e1, 1, 0, rfl, rfl, by omega, hsl.2, HZ2.out, HLEAF.out⟩
           case rest =>
            obtain ⟨p3, e3, ag, wh, rfl, rfl, hag, hp3, hZ, HSW⟩ := hcut
            have HZ3 : Hid (DZ w wc B g c L w.heap.size (w.heap.size + 1) p3 o m e3 gf F s0 (.slice ta 19 tc) (.slice la n lc) row) := hZ
            clear hZ HZ2
            go_wp2
            go_loopw [12, 16] (fun vl g1 W => ∃ (j : Nat), j ≤ ag ∧ g1 = .int .i64 ((ag - j : Nat) : Int) ∧ DZ w W B g c L w.heap.size (w.heap.size + 1) p3 o m e3 gf F s0 (.slice ta 19 tc) vl (row ++ List.replicate j wh)) (fun _ g1 _ => (intOf g1).toNat)
            case atStart => exact ⟨0, Nat.zero_le _, rfl, by rw [List.replicate_zero, List.append_nil]; exact HZ3.out⟩
            case round =>
             clear HZ3
             obtain ⟨j, hj, rfl, hZ⟩ := hrel
             obtain ⟨ja, jc, rfl⟩ := qam hZ.out
             have HZ4 : Hid (DZ w wr B g c L w.heap.size (w.heap.size + 1) p3 o m e3 gf F s0 (.slice ta 19 tc) _ (row ++ List.replicate j wh)) := hZ
             have hlen : (row ++ List.replicate j wh).length = n + j := by rw [List.length_append, List.length_replicate, ← HNR.out]
             rw [hlen] at HZ4 ⊢
             have HLN : Hid ((row ++ List.replicate j wh).length = n + j) := hlen
             clear hlen hZ
             generalize hW13 : wr = W13 at *
             clear hW13
             by_cases hja : j < ag
             · have hpos : (0 : Int) < ((ag - j : Nat) : Int) := by omega
               have hag1 : ((ag - j : Nat) : Int) - 1 = ((ag - (j + 1) : Nat) : Int) := by omega
               obtain ⟨x, hx⟩ : ∃ x, x = ag - j := ⟨_, rfl⟩
               rw [← hx] at hpos hag1 ⊢
               have HX : Hid (x = ag - j) := hx
               clear hx
               have HOX : Hid (World.ownsRow _ _ _ _ _ _ _) := HZ4.out.out.alloc (.cells #[.int .i64 (wh : Int)] 3)
               rw [HLN.out] at HOX
               have hsW := HZ4.out.hs
               have HN1 : Hid _ := qe1 W13 wh
               clear hnt2
               go_wp2_with (at_builtin; refine wpList_append_own _ rfl _ _ 39 rfl s0 3 i0 (.int .i64 0) 1 8 Tryz.underlying39 hi0 hz0 hz1 hz2 rfl (by decide) _ _ _ rfl HOX.out ⟨W13.heap.size, 0, none⟩ 1 1 [.int .i64 (wh : Int)] rfl rfl HN1.out (qe0 _) ?c3 ?c4 ?c5 ?_)
               case c3 => unfold maxLen; omega
               case c4 => omega
               case c5 => first | omega | (rw [World.size_alloc]; omega)
               intro v9 W9 hown9 hg9 _
               have HZ5 : Hid (DZ w W9 B g c L w.heap.size (w.heap.size + 1) p3 o m e3 gf F s0 (.slice ta 19 tc) v9 (row ++ List.replicate (j + 1) wh)) := HZ4.out.app hg9 (by
                have e1 : row ++ List.replicate (j + 1) wh = (row ++ List.replicate j wh) ++ [wh] := by rw [List.replicate_succ', List.append_assoc]
                have e2 : nc ((row ++ List.replicate j wh) ++ [wh]) = nc (row ++ List.replicate j wh) ++ [.int .i64 (wh : Int)] := by unfold nc; rw [List.map_append]; rfl
                rw [e1, e2, List.length_append, HLN.out]
                exact hown9)
               clear hown9 hg9 HOX HN1 HZ4
               go_wp2
               go_roundw
               case rel => exact ⟨j + 1, by omega, by go_num, HZ5.out⟩
               case measure => simp [intOf]; have := HX.out; omega
             · obtain rfl : j = ag := by omega
               have hz0' : ¬ (0 : Int) < ((j - j : Nat) : Int) := by omega
               go_wp2
               go_roundw
               case rel => exact ⟨k1, p3, e3, _, HZ4.out, by rw [HLN.out]; omega, by
                rcases HSW.out with ⟨h1, h2, h3, h4, h5⟩ | ⟨h1, h2⟩
                · exact .inl ⟨h1, h3, h4, h5⟩
                · exact .inr ⟨h1, h2⟩⟩
               case measure =>
                rw [HZ4.out.dy.sb.leftD, HMS]
                rcases HSW.out with ⟨h1, h2, h3, _⟩ | ⟨h1, h2⟩
                · rw [if_pos h1]; simp; omega
                · rw [if_neg h1]; simp; omega
         · have HEX : Hid ((e ≠ 0 ∧ r = .error e) ∨ (e = 0 ∧ q ≤ L.length ∧ a + b + 258 ≤ n ∧ r = if a + b + 258 < n then .error 3 else .ok (row, q))) := by
             rcases hcase with ⟨h1, h2, h3, h4⟩ | ⟨h1, h2⟩
             · have hn' : a + b + 258 ≤ n := by
                 rcases Nat.lt_or_ge n (a + b + 258) with h | h
                 · exact absurd ⟨h1, h⟩ hgo
                 · exact h
               exact .inr ⟨h1, h2, hn', by rw [← h4, qy1 (by omega) (by rw [← HNR.out]; exact hn'), ← HNR.out]⟩
             · exact .inl ⟨h1, h2⟩
           clear hcase HMS hgo
           by_cases he : e = 0
           · have HX2 : Hid (q ≤ L.length ∧ a + b + 258 ≤ n ∧ r = if a + b + 258 < n then .error 3 else .ok (row, q)) := by
               rcases HEX.out with ⟨h, _⟩ | ⟨_, h⟩
               · exact absurd he h
               · exact h
             subst he
             clear HEX
             have hnn := HX2.out.2.1
             have hnni : ¬ (n : Int) < (a : Int) + (b : Int) + 258 := by omega
             obtain ⟨⟨a0, a1, a2, a3, a4⟩, b0, b1, b2, b3, b4⟩ := qaa HZ1.out.dy.sb.bxh
             simp only [show ((0 : Nat) : Int) = 0 from rfl] at a4
             go_upto_region 41 with fail
             clear a0 a1 a2 a3 a4 b0 b1 b2 b3 b4
             have HZ6 : Hid (DZ w W11.drew B g c L w.heap.size (w.heap.size + 1) q o m 0 gf F s0 (.slice ta 19 tc) (.slice la n lc) row) := ⟨HZ1.out.dy.drew, HZ1.out.tb, HZ1.out.out, HZ1.out.lo2, HZ1.out.hs⟩
             refine q2j HZ1 (by omega) (by omega) hnn HNR.out (fun _ _ _ _ _ h => h) ?_
             · unfold Hid
               intro s145 s146 s147 s148 s149 s150 s151 s152 s153 s154 s155 s156 s157 s158 s159 s160 s161 s162 s163 s164 wc hcut
               obtain ⟨e9, hZ, hE9⟩ := hcut
               have HE9 : Hid (_ = _) := hE9
               clear hE9
               have HZ7 : Hid (DZ w wc B g c L w.heap.size (w.heap.size + 1) q o m e9 gf F s0 (.slice ta 19 tc) (.slice la n lc) row) := hZ
               clear hZ HZ6 HZ1
               by_cases h9 : e9 = 0
               · subst h9
                 have HSU : Hid (n = a + b + 258 ∧ dynG (fun i => L.getD i false) L.length p = .ok (row.take (a + 257), row.drop (a + 257), q)) := by
                  have h1 := HE9.out
                  obtain ⟨k1, k2, k3⟩ := HX2.out
                  have k4 : ¬ (a + b + 258 < n ∨ row.getD 256 0 = 0) := fun h => by rw [if_pos h] at h1; cases h1
                  rw [if_neg (fun h => k4 (.inl h))] at k3
                  refine ⟨by omega, ?_⟩
                  rw [HDY.out, k3]
                  simp only
                  rw [if_neg (fun h => k4 (.inr h))]
                 obtain ⟨gl, hla, hnc, hgl, hcl⟩ := HZ7.out.cell HNR.out (by omega)
                 subst hla
                 have HCL : Hid (∀ i, i < n → wc.cell? ⟨gl, i, none⟩ = some (.int .i64 (row.getD i 0 : Int))) := hcl
                 have hglB : w.heap.size ≤ gl := Nat.le_trans HZ7.out.lo2.2 (HZ7.out.out.lt gl rfl).1
                 obtain ⟨A1, hA1⟩ : ∃ A1, A1 = a + 257 := ⟨_, rfl⟩
                 have HA1 : Hid (A1 = a + 257) := hA1
                 have hA1i : (a : Int) + 257 = (A1 : Int) := by omega
                 have hAl : A1 < n := by have := HSU.out.1; omega
                 have hAw : IntKind.i64.wrap ((a : Int) + 257) = (A1 : Int) := by rw [IntKind.wrap_i64]; omega
                 have hAv : IntKind.i64.wrap (A1 : Int) = (A1 : Int) := by rw [IntKind.wrap_i64]; omega
                 have hs1 := fun W => q09 (g := gl) (N := n) (cap := lc) (m := A1) (by omega) W
                 have hs2 := fun W => q08 (g := gl) (N := n) (cap := lc) (m := A1) (by omega) (by omega) W
                 clear hcl hA1
                 obtain ⟨⟨a0, a1, a2, a3, a4⟩, b0, b1, b2, b3, b4⟩ := qaa HZ7.out.dy.sb.bxh
                 simp only [show ((0 : Nat) : Int) = 0 from rfl] at a4
                 go_upto_region 44 with fail
                 go_cut [3, 4] (fun v1 v2 wx => v1 = .slice (some ⟨gl, 0, none⟩) A1 lc ∧ v2 = .slice (some ⟨gl, A1, none⟩) (n - A1) (lc - A1) ∧ wx.heap[w.heap.size + 1]? = some (.cells (snC g L.length c q o m 0) 99 (0, 0)) ∧ Below w.heap.size w wx ∧ gl < wx.heap.size ∧ Hid (∀ i, i < n → wx.cell? ⟨gl, i, none⟩ = some (.int .i64 (row.getD i 0 : Int))))
                 case first =>
                  obtain ⟨⟨x0, x1, x2, x3, x4⟩, y0, y1, y2, y3, y4⟩ := qaa HZ7.out.dy.sb.rxh
                  obtain ⟨hd1, hd2⟩ := HZ7.out.dy.drew.sb.done (.slice (some ⟨g, 0, none⟩) L.length c) (.int .i64 (q : Int)) (.int .i64 (o : Int)) (.int .i64 (m : Int)) (.int .i64 0)
                  have hgr := qar wc.drew (w.heap.size + 1) (.slice (some ⟨g, 0, none⟩) L.length c) (.int .i64 (q : Int)) (.int .i64 (o : Int)) (.int .i64 (m : Int)) (.int .i64 0)
                  have hne : gl ≠ w.heap.size + 1 := fun e => by
                   have h1 := HCL.out 0 (by omega)
                   subst e
                   rw [x0] at h1
                   cases h1
                  have HFIN : Hid ((put5 wc.drew (w.heap.size + 1) (.slice (some ⟨g, 0, none⟩) L.length c) (.int .i64 (q : Int)) (.int .i64 (o : Int)) (.int .i64 (m : Int)) (.int .i64 0)).heap[w.heap.size + 1]? = some (.cells (snC g L.length c q o m 0) 99 (0, 0)) ∧ Below w.heap.size w (put5 wc.drew (w.heap.size + 1) (.slice (some ⟨g, 0, none⟩) L.length c) (.int .i64 (q : Int)) (.int .i64 (o : Int)) (.int .i64 (m : Int)) (.int .i64 0)) ∧ gl < (put5 wc.drew (w.heap.size + 1) (.slice (some ⟨g, 0, none⟩) L.length c) (.int .i64 (q : Int)) (.int .i64 (o : Int)) (.int .i64 (m : Int)) (.int .i64 0)).heap.size ∧ Hid (∀ i, i < n → (put5 wc.drew (w.heap.size + 1) (.slice (some ⟨g, 0, none⟩) L.length c) (.int .i64 (q : Int)) (.int .i64 (o : Int)) (.int .i64 (m : Int)) (.int .i64 0)).cell? ⟨gl, i, none⟩ = some (.int .i64 (row.getD i 0 : Int)))) :=
                   ⟨hd1, hd2, Nat.lt_of_lt_of_le (show gl < wc.drew.heap.size from hgl) (qgw hgr), fun i hi => hgr.cell (HCL.out i hi) (fun e => hne (Option.some.inj e))⟩
                  clear hd1 hd2 hgr
                  unfold put5 at HFIN
                  go_region
                  all_goals
                   go_wp2
                   go_meet
                   exact ⟨rfl, rfl, HFIN.out⟩
                 case rest =>
                  obtain ⟨rfl, rfl, hrx, hbw, hgl2, HC2⟩ := hcut
                  have HRX : Hid (_ = _) := hrx
                  have HBW : Hid (Below w.heap.size w wc) := hbw
                  have HQ1 : Hid (IQ wc (.slice (some ⟨gl, 0, none⟩) A1 lc) (zz (row.take A1))) := by
                   refine ⟨gl, 0, lc, by rw [qa4, List.length_take, ← HNR.out, Nat.min_eq_left (by omega)], hgl2, fun i hi => ?_⟩
                   rw [qa4, List.length_take, ← HNR.out] at hi
                   rw [Nat.zero_add, HC2.out i (by omega), qmi]
                   rw [List.getD_eq_getElem?_getD, List.getD_eq_getElem?_getD, List.getElem?_take, if_pos (by omega)]
                  have HQ2 : Hid (IQ wc (.slice (some ⟨gl, A1, none⟩) (n - A1) (lc - A1)) (zz (row.drop A1))) := by
                   refine ⟨gl, A1, lc - A1, by rw [qa4, List.length_drop, ← HNR.out], hgl2, fun i hi => ?_⟩
                   rw [qa4, List.length_drop, ← HNR.out] at hi
                   rw [HC2.out (A1 + i) (by omega), qmi]
                   rw [List.getD_eq_getElem?_getD, List.getD_eq_getElem?_getD, List.getElem?_drop]
                  have hlen : (row.take A1).length ≤ 320 ∧ (row.drop A1).length ≤ 320 := by
                   rw [List.length_take, List.length_drop, ← HNR.out]
                   have := HSU.out.1
                   omega
                  have HLEN : Hid _ := hlen
                  clear hrx hbw hlen HZ7 hs1 hs2
                  go_step
                  go_step
                  try simp only [Exit.inBlock, Exit.then]
                  refine bodyPost_ret (qld Tryz.results41 _ _ (w.heap.size + 1) 99 _ (0, 0) _ rfl HRX.out Tryz.underlying99 rfl (iSn g L.length c q o m 0) _ _ rfl rfl) rfl ?_
                  exact ⟨q, 0, _, _, rfl, .inl ⟨rfl, row.take A1, row.drop A1, by rw [HA1.out]; exact HSU.out.2, ⟨HQ1.out, fun g o n c e => by cases e; exact hglB⟩, ⟨HQ2.out, fun g o n c e => by cases e; exact hglB⟩, HLEN.out.1, HLEN.out.2, HX2.out.1⟩, HBW.out⟩
               · have h9e : e9 = 3 := by
                   have h1 := HE9.out
                   split at h1
                   · exact h1
                   · exact absurd h1 h9
                 have HR2 : Hid (dynG (fun i => L.getD i false) L.length p = .error 3) := by
                  have h1 := HE9.out
                  obtain ⟨k1, k2, k3⟩ := HX2.out
                  unfold Hid
                  rw [HDY.out, k3]
                  by_cases k5 : a + b + 258 < n
                  · simp [k5]
                  · rw [if_neg k5]
                    simp only
                    rw [if_pos]
                    by_cases k6 : row.getD 256 0 = 0
                    · exact k6
                    · rw [if_neg (fun h => h.elim k5 k6)] at h1; omega
                 subst h9e
                 clear HE9 HX2
                 go_upto_region 42 with fail
                 obtain ⟨⟨a0, a1, a2, a3, a4⟩, _⟩ := qaa HZ7.out.dy.sb.bxh
                 go_upto_region 43 with fail
                 go_cut [3, 4] (fun v1 v2 wx => v1 = .slice none 0 0 ∧ v2 = .slice none 0 0 ∧ wx.heap[w.heap.size + 1]? = some (.cells (snC g L.length c q o m 3) 99 (0, 0)) ∧ Below w.heap.size w wx)
                 case first =>
                  obtain ⟨_, b0, b1, b2, b3, b4⟩ := qaa HZ7.out.dy.sb.rxh
                  have HD : Hid _ := HZ7.out.dy.sb.done (.slice (some ⟨g, 0, none⟩) L.length c) (.int .i64 (q : Int)) (.int .i64 (o : Int)) (.int .i64 (m : Int)) (.int .i64 3)
                  unfold put5 at HD
                  go_wp2
                  go_meet
                  exact ⟨rfl, rfl, HD.out.1, HD.out.2⟩
                 case rest =>
                  obtain ⟨rfl, rfl, hrx, hbw⟩ := hcut
                  have HBR : Hid (Below w.heap.size w wc) := hbw
                  have HRX : Hid (_ = _) := hrx
                  clear hbw hrx HZ7
                  go_step
                  go_step
                  try simp only [Exit.inBlock, Exit.then]
                  refine bodyPost_ret (qld Tryz.results41 _ _ (w.heap.size + 1) 99 _ (0, 0) _ rfl HRX.out Tryz.underlying99 rfl (iSn g L.length c q o m 3) _ _ rfl rfl) rfl ?_
                  exact ⟨q, 3, _, _, rfl, .inr ⟨by decide, HR2.out, rfl, rfl⟩, HBR.out⟩
           · have HR2 : Hid (dynG (fun i => L.getD i false) L.length p = .error e) := by
               rcases HEX.out with ⟨_, h⟩ | ⟨h, _⟩
               · unfold Hid; rw [HDY.out, h]
               · exact absurd h he
             have hei : ((e : Int) == 0) = false := by simp; omega
             clear HEX
             obtain ⟨⟨a0, a1, a2, a3, a4⟩, b0, b1, b2, b3, b4⟩ := qaa HZ1.out.dy.sb.bxh
             go_upto_region 41 with fail
             clear a0 a1 a2 a3 a4 b0 b1 b2 b3 b4
             have HZ6 : Hid (DZ w W11.drew B g c L w.heap.size (w.heap.size + 1) q o m e gf F s0 (.slice ta 19 tc) (.slice la n lc) row) := ⟨HZ1.out.dy.drew, HZ1.out.tb, HZ1.out.out, HZ1.out.lo2, HZ1.out.hs⟩
             refine q2i (fun e9 => Hid (e9 = e)) HZ1 (by omega) (by omega) he (fun e9 h => by rw [h.out, if_neg (fun q => he q.2)]; rfl) (fun _ _ _ _ _ h => h) ?_
             · unfold Hid
               intro s145 s146 s147 s148 s149 s150 s151 s152 s153 s154 s155 s156 s157 s158 s159 s160 s161 s162 s163 s164 wc hcut
               obtain ⟨e9, hZ, hE9⟩ := hcut
               have HE9 : Hid (_ = _) := hE9
               clear hE9
               obtain rfl : e9 = e := HE9.out
               have HZ7 : Hid (DZ w wc B g c L w.heap.size (w.heap.size + 1) q o m e9 gf F s0 (.slice ta 19 tc) (.slice la n lc) row) := hZ
               have hej : ((e9 : Int) != 0) = true := by simp; omega
               clear hZ HZ6 HZ1 HE9
               go_upto_region 42 with fail
               obtain ⟨⟨a0, a1, a2, a3, a4⟩, _⟩ := qaa HZ7.out.dy.sb.bxh
               go_upto_region 43 with fail
               go_cut [3, 4] (fun v1 v2 wx => v1 = .slice none 0 0 ∧ v2 = .slice none 0 0 ∧ wx.heap[w.heap.size + 1]? = some (.cells (snC g L.length c q o m e9) 99 (0, 0)) ∧ Below w.heap.size w wx)
               case first =>
                obtain ⟨_, b0, b1, b2, b3, b4⟩ := qaa HZ7.out.dy.sb.rxh
                have HD : Hid _ := HZ7.out.dy.sb.done (.slice (some ⟨g, 0, none⟩) L.length c) (.int .i64 (q : Int)) (.int .i64 (o : Int)) (.int .i64 (m : Int)) (.int .i64 (e9 : Int))
                unfold put5 at HD
                go_wp2
                go_meet
                exact ⟨rfl, rfl, HD.out.1, HD.out.2⟩
               case rest =>
                obtain ⟨rfl, rfl, hrx, hbw⟩ := hcut
                have HBR : Hid (Below w.heap.size w wc) := hbw
                have HRX : Hid (_ = _) := hrx
                clear hbw hrx HZ7
                go_step
                go_step
                try simp only [Exit.inBlock, Exit.then]
                refine bodyPost_ret (qld Tryz.results41 _ _ (w.heap.size + 1) 99 _ (0, 0) _ rfl HRX.out Tryz.underlying99 rfl (iSn g L.length c q o m e9) _ _ rfl rfl) rfl ?_
                exact ⟨q, e9, _, _, rfl, .inr ⟨he, HR2.out, rfl, rfl⟩, HBR.out⟩
      · have hei : ((e5 : Int) != 0) = true := by simp; omega
        have HR2 : Hid (_ = _) := HDF.out.1 he5
        clear HDF HOZ
        obtain ⟨⟨a0, a1, a2, a3, a4⟩, _⟩ := qaa HS10.out.sb.bxh
        go_upto_region 17 with fail
        go_cut [3, 4] (fun v1 v2 wx => v1 = .slice none 0 0 ∧ v2 = .slice none 0 0 ∧ wx.heap[w.heap.size + 1]? = some (.cells (snC g L.length c p' o m e5) 99 (0, 0)) ∧ Below w.heap.size w wx)
        case first =>
         obtain ⟨_, b0, b1, b2, b3, b4⟩ := qaa HS10.out.sb.rxh
         have HD : Hid _ := HS10.out.sb.done (.slice (some ⟨g, 0, none⟩) L.length c) (.int .i64 (p' : Int)) (.int .i64 (o : Int)) (.int .i64 (m : Int)) (.int .i64 (e5 : Int))
         unfold put5 at HD
         go_wp2
         go_meet
         exact ⟨rfl, rfl, HD.out.1, HD.out.2⟩
        case rest =>
         obtain ⟨rfl, rfl, hrx, hbw⟩ := hcut
         have HBR : Hid (Below w.heap.size w wc) := hbw
         have HRX : Hid (_ = _) := hrx
         clear hbw hrx HS10
         go_step
         go_step
         try simp only [Exit.inBlock, Exit.then]
         refine bodyPost_ret (qld Tryz.results41 _ _ (w.heap.size + 1) 99 _ (0, 0) _ rfl HRX.out Tryz.underlying99 rfl (iSn g L.length c p' o m e5) _ _ rfl rfl) rfl ?_
         exact ⟨p', e5, _, _, rfl, .inr ⟨he5, HR2.out, rfl, rfl⟩, HBR.out⟩
end Go.Proofs.YthkppipdflmekaaGreat
