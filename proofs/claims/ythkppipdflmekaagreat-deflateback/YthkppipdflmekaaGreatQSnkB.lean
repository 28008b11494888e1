/- Contract of (*bitio.Sink).bit: one bit behind the others. -/
import Derived.Test.YthkppipdflmekaaGreatQArmW
import Derived.Test.YthkppipdflmekaaGreatQMatchE
import Derived.Lib.LazyBuf
set_option maxRecDepth 100000
set_option maxHeartbeats 1000000
namespace Go.Proofs.YthkppipdflmekaaGreat
open Go.RowKit
attribute [local go_sem ↓] Go.wp_at_zero Go.wp_at_succ
set_option linter.unusedVariables false
set_option linter.unusedSimpArgs false
theorem Tryz.info64b : (Tryz.prog.info? 63).map (·.size) = some 64 := by kernel_rfl
theorem qpx (p : Option Addr) (F : Nat → Value) : Tryz.prog.built 134 [(0, .pointer p), (1, .agg ((List.range 64).map F).toArray)] = some (.pointer p :: (List.range 64).map F).toArray := by kernel_rfl
theorem qpy (p : Option Addr) (L : List Bool) (k : Nat) (w : World) : (Instr.build 134 #[(0, .pointer p), (1, .agg (qb1 L k).toArray)]).run Tryz.prog w = .ok (.agg (.pointer p :: qb1 L k).toArray) w :=
 run_build w _ _ _ (qpx p _)
theorem qmc (w : World) : (Instr.build 63 #[]).run Tryz.prog w = .ok (.agg qbj.toArray) w :=
 run_build w _ _ _ (by kernel_rfl)
theorem qkq {o : Oper} {ev : Operand → Value} {ps : Array (Nat × Operand)} {t : TypeId} {vs : Array (Nat × Value)} {v : Value} {P : Program} {w : World} (ho : o.op = .build t ps) (hv : (ps.map fun (i, x) => (i, ev x)) = vs) (h : (Instr.build t vs).run P w = .ok v w) : (execOp ev o).run P w = .ok (.value v) w := by
 subst hv
 unfold execOp
 simp only [ho]
 simp [h]
theorem qap.setAll {w : World} {g n : Nat} {p : Option Addr} {rs : List Value} (h : qap w g p rs n) (hl : rs.length = 64) (vs : List Value) (hv : vs.length = 64) : qap (w.setCells g 1 vs) g p vs n := by
 have := qf8 g 65 vs [.pointer p] rs [.int .i64 (n : Int)] w (by omega) (by simpa [qap, snkC] using h)
 simpa [qap, snkC] using this
theorem qf9 (w : World) (g o : Nat) (vs : List Value) : w.grownBy (w.setCells g o vs) (some g) := by
 have hb := below_setCells (B := g) (a := w) (Nat.le_refl g) vs o w (Below.refl _ w)
 exact ⟨hb.os, hb.tape, hb.output, hb.size, fun k hk hne => qbs g k (fun e => hne (by rw [e])) _ _ _⟩
theorem qap.there {w : World} {g n : Nat} {p : Option Addr} {rs : List Value} (h : qap w g p rs n) (hl : rs.length = 64) : w.there g 1 64 := fun j hj => by
 refine ⟨?_, h.free _⟩
 rw [h.rest j (by omega), List.getElem?_eq_getElem (by omega)]; rfl
theorem qrg : (Tryz.prog.info? 63).map (·.size) = some qbj.toArray.size := Tryz.info64b
theorem qv8 : qbj.toArray.all (·.oneCell') = true := by decide +kernel
theorem qkt {w W : World} {g N m : Nat} {p : Option Addr} {L : List Bool} {RS : List Value} (h : qap W g p RS N) (hc : qdh W g L m p) (hg : w.grownBy W (some g)) (hl : RS.length = 64) :
    Hid (qap ((W.alloc (.cells (.pointer p :: RS).toArray 134)).setCell ⟨g, 0, none⟩ (.pointer (some ⟨W.heap.size, 0, none⟩))).drew g (some ⟨W.heap.size, 0, none⟩) RS N) ∧
    Hid (((W.alloc (.cells (.pointer p :: RS).toArray 134)).setCell ⟨g, 0, none⟩ (.pointer (some ⟨W.heap.size, 0, none⟩))).drew.heap[W.heap.size]? = some (.cells (.pointer p :: RS).toArray 134 (0, 0))) ∧
    Hid (W.heap.size ≠ g) ∧
    Hid (qdh ((W.alloc (.cells (.pointer p :: RS).toArray 134)).setCell ⟨g, 0, none⟩ (.pointer (some ⟨W.heap.size, 0, none⟩))).drew g L m p) ∧
    Hid (w.grownBy ((W.alloc (.cells (.pointer p :: RS).toArray 134)).setCell ⟨g, 0, none⟩ (.pointer (some ⟨W.heap.size, 0, none⟩))).drew (some g)) ∧
    Hid (((W.alloc (.cells (.pointer p :: RS).toArray 134)).setCell ⟨g, 0, none⟩ (.pointer (some ⟨W.heap.size, 0, none⟩))).drew.there g 1 qbj.toArray.size) := by
 have h1 := (h.alloc (.cells (.pointer p :: RS).toArray 134)).setPtr (some ⟨W.heap.size, 0, none⟩)
 have hlt := h.lt
 have hne : W.heap.size ≠ g := by omega
 have hG : W.grownBy ((W.alloc (.cells (.pointer p :: RS).toArray 134)).setCell ⟨g, 0, none⟩ (.pointer (some ⟨W.heap.size, 0, none⟩))).drew (some g) := q4q (gset (q03 (qcj W _) _) 0 _)
 refine ⟨h1.drew, ?_, hne, hc.kept hG, qdl hg hG, h1.drew.there hl⟩
 show (World.setCell _ _ _).heap[W.heap.size]? = _
 rw [heap_setCell_other _ _ _ _ hne]; exact heap_alloc_new W _
theorem qxy (g : Nat) (L : List Bool) (x : Nat) (w : World) (hS : qav w g L) (hx : x < 4294967296) (hL : L.length ≤ 4000000000000000000) :
    Calls Tryz.prog 85 #[.pointer (some ⟨g, 0, none⟩), .int .u32 (x : Int)] w fun e w' => e = .returned (.tuple #[]) ∧ qav w' g (L ++ [x.testBit 0]) ∧ w.grownBy w' (some g) := by
 obtain ⟨p, hI, hC⟩ := hS
 have hl := qbn L (64 * (L.length / 512))
 have c65 := hI.count hl
 have cj := hI.rest (L.length % 512 / 8) (by rw [hl]; omega)
 rw [qf2 _ _ _ (by omega), show 64 * (L.length / 512) + L.length % 512 / 8 = L.length / 8 by omega] at cj
 have f65 := hI.free 65
 have fj := hI.free (1 + L.length % 512 / 8)
 have HV : Hid (_ = _) := q0h L x hx
 have HST : Hid (qap ((w.setCell ⟨g, 1 + L.length % 512 / 8, none⟩ (.int .u8 ((qbe (L ++ [x.testBit 0]) (L.length / 8)).toNat : Int))).setCell ⟨g, 65, none⟩ (.int .i64 ((L.length : Int) + 1))).drew g p (qb1 (L ++ [x.testBit 0]) (64 * (L.length / 512))) (L.length + 1)) := (hI.step (x.testBit 0)).drew
 have HG : Hid (w.grownBy ((w.setCell ⟨g, 1 + L.length % 512 / 8, none⟩ (.int .u8 ((qbe (L ++ [x.testBit 0]) (L.length / 8)).toNat : Int))).setCell ⟨g, 65, none⟩ (.int .i64 ((L.length : Int) + 1))).drew (some g)) := q4q (gset (gset (qcj w _) _ _) _ _)
 have HC : Hid (qdh ((w.setCell ⟨g, 1 + L.length % 512 / 8, none⟩ (.int .u8 ((qbe (L ++ [x.testBit 0]) (L.length / 8)).toNat : Int))).setCell ⟨g, 65, none⟩ (.int .i64 ((L.length : Int) + 1))).drew g L (L.length / 512) p) := hC.kept HG.out
 have hpb := (qbe L (L.length / 8)).toNat_lt
 have HM : Hid (∀ w', qap w' g p (qb1 (L ++ [x.testBit 0]) (64 * (L.length / 512))) (L.length + 1) → qdh w' g L (L.length / 512) p → ¬ (L.length + 1) % 512 = 0 → qav w' g (L ++ [x.testBit 0])) := fun w' h1 h2 h3 => qav.more h1 h2 h3
 have HF : Hid (∀ w' B, qap w' g (some ⟨B, 0, none⟩) qbj (L.length + 1) → B ≠ g → w'.heap[B]? = some (.cells (.pointer p :: qb1 (L ++ [x.testBit 0]) (64 * (L.length / 512))).toArray 134 (0, 0)) → qdh w' g L (L.length / 512) p → (L.length + 1) % 512 = 0 → qav w' g (L ++ [x.testBit 0])) := fun w' B h1 h2 h3 h4 h5 => qav.full h1 h2 h3 h4 h5
 have HRL : Hid ((qb1 (L ++ [x.testBit 0]) (64 * (L.length / 512))).length = 64) := qbn _ _
 have HRO : Hid (∀ v ∈ qb1 (L ++ [x.testBit 0]) (64 * (L.length / 512)), v.oneCell' = true) := qil _ _
 have hbd := qpy p (L ++ [x.testBit 0]) (64 * (L.length / 512))
 have hb0 := qmc
 generalize hN : L.length = N at *
 generalize x.testBit 0 = b at *
 generalize (qbe (L ++ [b]) (N / 8)).toNat = V at *
 generalize (qbe L (N / 8)).toNat = U at *
 generalize qb1 (L ++ [b]) (64 * (N / 512)) = RS at *
 have i0 : (0 : Int) ≤ (N : Int) % 512 / 8 := by omega
 have i1 : (N : Int) % 512 / 8 < 64 := by omega
 have t3 : ((N : Int) % 512 / 8).toNat = N % 512 / 8 := by omega
 clear hI hC
 by_cases hf : (N + 1) % 512 = 0
 · have hf' : (((N : Int) + 1) % 512 == 0) = true := by simp; omega
   go_enter Tryz.func85, Tryz.ntmps85
   go_wp2
   go_region
   go_wp2
   rw [HV.out]
   clear c65 cj f65 fj hl HV
   generalize World.drew (World.setCell (World.setCell w _ _) _ _) = W at *
   have cp := HST.out.ptr
   have fp := HST.out.free 0
   have HRG : Hid (W.drew.rangeAt g 1 RS) := HST.out.range
   have HRI : Hid ((Tryz.prog.info? 63).map (·.size) = some RS.length) := by unfold Hid; rw [HRL.out]; exact Tryz.info64b
   have HBD : Hid (_) := hbd
   have hSA := HST.out.alloc (.cells (.pointer p :: RS).toArray 134)
   have cp2 := hSA.ptr
   have fp2 := hSA.free 0
   have HSA : Hid (qap _ _ _ _ _) := hSA
   clear hSA
   clear hbd
   refine wp_region_any (by kernel_rfl) ?_
   change wpAny _ _ _ _ 14 (Array.replicate 14 false) _ (World.drew _)
   refine qaq (i := 0) rfl (by kernel_rfl) (by kernel_rfl) (by kernel_rfl) (fun _ _ _ _ h => h) 40 rfl (.pointer (some ⟨g, 0, none⟩)) (Or.inl ⟨by rfl, by intro w; go_simp⟩) ?_
   simp only [Act.put, List.setIfInBounds_toArray, List.set_cons_zero, List.set_cons_succ]
   refine qaq (i := 1) rfl (by kernel_rfl) (by kernel_rfl) (by kernel_rfl) (fun _ _ _ _ h => h) 41 rfl (.pointer (some ⟨g, 0, none⟩)) (Or.inl ⟨by rfl, by intro w; go_simp⟩) ?_
   simp only [Act.put, List.setIfInBounds_toArray, List.set_cons_zero, List.set_cons_succ]
   refine qaq (i := 2) rfl (by kernel_rfl) (by kernel_rfl) (by kernel_rfl) (fun _ _ _ _ h => h) 42 rfl (.pointer (some ⟨g, 0, none⟩)) (Or.inl ⟨by rfl, by intro w; go_simp⟩) ?_
   simp only [Act.put, List.setIfInBounds_toArray, List.set_cons_zero, List.set_cons_succ]
   refine qaq (i := 3) rfl (by kernel_rfl) (by kernel_rfl) (by kernel_rfl) (fun _ _ _ _ h => h) 43 rfl (.pointer (some ⟨g, 0, none⟩)) (Or.inl ⟨by rfl, by intro w; go_simp⟩) ?_
   simp only [Act.put, List.setIfInBounds_toArray, List.set_cons_zero, List.set_cons_succ]
   refine qaq (i := 5) rfl (by kernel_rfl) (by kernel_rfl) (by kernel_rfl) (fun _ _ _ _ h => h) 45 rfl (.pointer (some ⟨g, 0, none⟩)) (Or.inl ⟨by rfl, by intro w; go_simp⟩) ?_
   simp only [Act.put, List.setIfInBounds_toArray, List.set_cons_zero, List.set_cons_succ]
   refine qaq (i := 6) rfl (by kernel_rfl) (by kernel_rfl) (by kernel_rfl) (fun _ _ _ _ h => h) 46 rfl (.pointer (some ⟨g, 0, none⟩)) (Or.inl ⟨by rfl, by intro w; go_simp⟩) ?_
   simp only [Act.put, List.setIfInBounds_toArray, List.set_cons_zero, List.set_cons_succ]
   refine qaq (i := 7) rfl (by kernel_rfl) (by kernel_rfl) (by kernel_rfl) (fun _ _ _ _ h => h) 47 rfl (.pointer (some ⟨g, 1, none⟩)) (Or.inl ⟨by rfl, by intro w; go_simp⟩) ?_
   simp only [Act.put, List.setIfInBounds_toArray, List.set_cons_zero, List.set_cons_succ]
   refine wpAny_ready (rs := [4, 8]) (by kernel_rfl) (by simp) ?_
   refine AllReady.cons rfl (fun K hK => ?_) (AllReady.cons rfl (fun K hK => ?_) AllReady.nil)
   · refine qax rfl (some 44) rfl (v := .pointer p) (w' := W.drew) (by go_simp) (hK _ _ ?_)
     clear hK
     simp only [Act.put, List.setIfInBounds_toArray, List.set_cons_zero, List.set_cons_succ]
     refine wpAny_ready (rs := [8]) (by kernel_rfl) (by simp) ?_
     refine AllReady.cons rfl (fun K hK => ?_) AllReady.nil
     refine qoc rfl 48 rfl 63 _ rfl g 1 rfl RS _ HRG.out Tryz.underlying63 rfl HRI.out (hK _ _ ?_)
     clear hK
     simp only [Act.put, List.setIfInBounds_toArray, List.set_cons_zero, List.set_cons_succ]
     refine qaq (i := 9) rfl (by kernel_rfl) (by kernel_rfl) (by kernel_rfl) (fun _ _ _ _ h => h) 49 rfl (.agg (.pointer p :: RS).toArray) (Or.inl ⟨by rfl, fun w => qkq (vs := #[(0, .pointer p), (1, .agg RS.toArray)]) rfl (by go_simp) (HBD.out w)⟩) ?_
     simp only [Act.put, List.setIfInBounds_toArray, List.set_cons_zero, List.set_cons_succ]
     refine wpAny_ready (rs := [10]) (by kernel_rfl) (by simp) ?_
     refine AllReady.cons rfl (fun K hK => ?_) AllReady.nil
     refine qax rfl (some 50) rfl (v := .pointer (some ⟨W.heap.size, 0, none⟩)) (w' := W.drew.alloc (.cells (.pointer p :: RS).toArray 134)) (by go_simp) (hK _ _ ?_)
     clear hK
     simp only [Act.put, List.setIfInBounds_toArray, List.set_cons_zero, List.set_cons_succ]
     refine qaq (i := 11) rfl (by kernel_rfl) (by kernel_rfl) (by kernel_rfl) (fun _ _ _ _ h => h) 51 rfl (.pointer (some ⟨g, 0, none⟩)) (Or.inl ⟨by rfl, by intro w; go_simp⟩) ?_
     simp only [Act.put, List.setIfInBounds_toArray, List.set_cons_zero, List.set_cons_succ]
     refine qaq (i := 12) rfl (by kernel_rfl) (by kernel_rfl) (by kernel_rfl) (fun _ _ _ _ h => h) 52 rfl (.pointer (some ⟨g, 0, none⟩)) (Or.inl ⟨by rfl, by intro w; go_simp⟩) ?_
     simp only [Act.put, List.setIfInBounds_toArray, List.set_cons_zero, List.set_cons_succ]
     refine wpAny_ready (rs := [13]) (by kernel_rfl) (by simp) ?_
     refine AllReady.cons rfl (fun K hK => ?_) AllReady.nil
     refine armW rfl ?_
     go_simp
     refine hK _ _ ?_
     clear hK
     refine wpAny_done (by kernel_rfl) ?_ _
     obtain ⟨G1, G2, G3, G4, G5, G6⟩ := qkt HST.out HC.out HG.out HRL.out
     clear cp fp cp2 fp2 HSA HRG HRI HBD HST HC HG
     generalize World.drew (World.setCell (World.alloc W _) _ _) = W5 at *
     go_wp2_with (refine wpList_store_mid rfl 63 _ _ rfl g 1 qbj.toArray rfl (by rfl) G6.out qrg qv8 ?_)
     exact bodyPost_end (results_none rfl _ _ _) rfl ⟨rfl, HF.out _ _ (G1.out.setAll HRL.out qbj rfl) G3.out (by rw [qbs _ _ G3.out]; exact G2.out) (G4.out.kept (qf9 _ _ _ _)) hf, qdl G5.out (qf9 _ _ _ _)⟩
   · refine qoc rfl 48 rfl 63 _ rfl g 1 rfl RS _ HRG.out Tryz.underlying63 rfl HRI.out (hK _ _ ?_)
     clear hK
     simp only [Act.put, List.setIfInBounds_toArray, List.set_cons_zero, List.set_cons_succ]
     refine wpAny_ready (rs := [4]) (by kernel_rfl) (by simp) ?_
     refine AllReady.cons rfl (fun K hK => ?_) AllReady.nil
     refine qax rfl (some 44) rfl (v := .pointer p) (w' := W.drew) (by go_simp) (hK _ _ ?_)
     clear hK
     simp only [Act.put, List.setIfInBounds_toArray, List.set_cons_zero, List.set_cons_succ]
     refine qaq (i := 9) rfl (by kernel_rfl) (by kernel_rfl) (by kernel_rfl) (fun _ _ _ _ h => h) 49 rfl (.agg (.pointer p :: RS).toArray) (Or.inl ⟨by rfl, fun w => qkq (vs := #[(0, .pointer p), (1, .agg RS.toArray)]) rfl (by go_simp) (HBD.out w)⟩) ?_
     simp only [Act.put, List.setIfInBounds_toArray, List.set_cons_zero, List.set_cons_succ]
     refine wpAny_ready (rs := [10]) (by kernel_rfl) (by simp) ?_
     refine AllReady.cons rfl (fun K hK => ?_) AllReady.nil
     refine qax rfl (some 50) rfl (v := .pointer (some ⟨W.heap.size, 0, none⟩)) (w' := W.drew.alloc (.cells (.pointer p :: RS).toArray 134)) (by go_simp) (hK _ _ ?_)
     clear hK
     simp only [Act.put, List.setIfInBounds_toArray, List.set_cons_zero, List.set_cons_succ]
     refine qaq (i := 11) rfl (by kernel_rfl) (by kernel_rfl) (by kernel_rfl) (fun _ _ _ _ h => h) 51 rfl (.pointer (some ⟨g, 0, none⟩)) (Or.inl ⟨by rfl, by intro w; go_simp⟩) ?_
     simp only [Act.put, List.setIfInBounds_toArray, List.set_cons_zero, List.set_cons_succ]
     refine qaq (i := 12) rfl (by kernel_rfl) (by kernel_rfl) (by kernel_rfl) (fun _ _ _ _ h => h) 52 rfl (.pointer (some ⟨g, 0, none⟩)) (Or.inl ⟨by rfl, by intro w; go_simp⟩) ?_
     simp only [Act.put, List.setIfInBounds_toArray, List.set_cons_zero, List.set_cons_succ]
     refine wpAny_ready (rs := [13]) (by kernel_rfl) (by simp) ?_
     refine AllReady.cons rfl (fun K hK => ?_) AllReady.nil
     refine armW rfl ?_
     go_simp
     refine hK _ _ ?_
     clear hK
     refine wpAny_done (by kernel_rfl) ?_ _
     obtain ⟨G1, G2, G3, G4, G5, G6⟩ := qkt HST.out HC.out HG.out HRL.out
     clear cp fp cp2 fp2 HSA HRG HRI HBD HST HC HG
     generalize World.drew (World.setCell (World.alloc W _) _ _) = W5 at *
     go_wp2_with (refine wpList_store_mid rfl 63 _ _ rfl g 1 qbj.toArray rfl (by rfl) G6.out qrg qv8 ?_)
     exact bodyPost_end (results_none rfl _ _ _) rfl ⟨rfl, HF.out _ _ (G1.out.setAll HRL.out qbj rfl) G3.out (by rw [qbs _ _ G3.out]; exact G2.out) (G4.out.kept (qf9 _ _ _ _)) hf, qdl G5.out (qf9 _ _ _ _)⟩
 · have hf' : (((N : Int) + 1) % 512 == 0) = false := by simp; omega
   go_enter Tryz.func85, Tryz.ntmps85
   go_wp2
   go_region
   go_wp2
   rw [HV.out]
   exact bodyPost_end (results_none rfl _ _ _) rfl ⟨rfl, HM.out _ HST.out HC.out hf, HG.out⟩
end Go.Proofs.YthkppipdflmekaaGreat
