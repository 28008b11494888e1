/- Contract of (*bitio.Sink).bit: one bit behind the others. -/
import Derived.Test.YthkppipdflmekaaGreatQArmW
import Derived.Test.YthkppipdflmekaaGreatQMatchE
import Derived.Lib.LazyBuf
namespace Go.Proofs.YthkppipdflmekaaGreat
open Go.RowKit
attribute [local go_sem ↓] Go.wp_at_zero Go.wp_at_succ
set_option linter.unusedVariables false
set_option linter.unusedSimpArgs false
theorem Tryz.info64b : (Tryz.prog.info? 63).map (·.size) = some 64 := by kernel_rfl
theorem built_piece (p : Option Addr) (F : Nat → Value) : Tryz.prog.built 134 [(0, .pointer p), (1, .agg ((List.range 64).map F).toArray)] = some (.pointer p :: (List.range 64).map F).toArray := by kernel_rfl
theorem build_piece (p : Option Addr) (L : List Bool) (k : Nat) (w : World) : (Instr.build 134 #[(0, .pointer p), (1, .agg (restC L k).toArray)]).run Tryz.prog w = .ok (.agg (.pointer p :: restC L k).toArray) w :=
 run_build w _ _ _ (built_piece p _)
theorem build_noughts (w : World) : (Instr.build 63 #[]).run Tryz.prog w = .ok (.agg qa8.toArray) w :=
 run_build w _ _ _ (by kernel_rfl)
theorem exec_piece {o : Oper} {ev : Operand → Value} {ps : Array (Nat × Operand)} {t : TypeId} {vs : Array (Nat × Value)} {v : Value} {P : Program} {w : World} (ho : o.op = .build t ps) (hv : (ps.map fun (i, x) => (i, ev x)) = vs) (h : (Instr.build t vs).run P w = .ok v w) : (execOp ev o).run P w = .ok (.value v) w := by
 subst hv
 unfold execOp
 simp only [ho]
 simp [h]
theorem qao.setAll {w : World} {g n : Nat} {p : Option Addr} {rs : List Value} (h : qao w g p rs n) (hl : rs.length = 64) (vs : List Value) (hv : vs.length = 64) : qao (w.setCells g 1 vs) g p vs n := by
 have := qe3 g 65 vs [.pointer p] rs [.int .i64 (n : Int)] w (by omega) (by simpa [qao, snkC] using h)
 simpa [qao, snkC] using this
theorem qe4 (w : World) (g o : Nat) (vs : List Value) : w.grownBy (w.setCells g o vs) (some g) := by
 have hb := below_setCells (B := g) (a := w) (Nat.le_refl g) vs o w (Below.refl _ w)
 exact ⟨hb.os, hb.tape, hb.output, hb.size, fun k hk hne => qbf g k (fun e => hne (by rw [e])) _ _ _⟩
theorem qao.there {w : World} {g n : Nat} {p : Option Addr} {rs : List Value} (h : qao w g p rs n) (hl : rs.length = 64) : w.there g 1 64 := fun j hj => by
 refine ⟨?_, h.free _⟩
 rw [h.rest j (by omega), List.getElem?_eq_getElem (by omega)]; rfl
theorem n64_info : (Tryz.prog.info? 63).map (·.size) = some qa8.toArray.size := Tryz.info64b
theorem n64_one : qa8.toArray.all (·.oneCell') = true := by decide +kernel
theorem after_full {w W : World} {g N m : Nat} {p : Option Addr} {L : List Bool} {RS : List Value} (h : qao W g p RS N) (hc : Chain W g L m p) (hg : w.grownBy W (some g)) (hl : RS.length = 64) :
  Hid (qao ((W.alloc (.cells (.pointer p :: RS).toArray 134)).setCell ⟨g, 0, none⟩ (.pointer (some ⟨W.heap.size, 0, none⟩))).drew g (some ⟨W.heap.size, 0, none⟩) RS N) ∧
  Hid (((W.alloc (.cells (.pointer p :: RS).toArray 134)).setCell ⟨g, 0, none⟩ (.pointer (some ⟨W.heap.size, 0, none⟩))).drew.heap[W.heap.size]? = some (.cells (.pointer p :: RS).toArray 134 (0, 0))) ∧
  Hid (W.heap.size ≠ g) ∧
  Hid (Chain ((W.alloc (.cells (.pointer p :: RS).toArray 134)).setCell ⟨g, 0, none⟩ (.pointer (some ⟨W.heap.size, 0, none⟩))).drew g L m p) ∧
  Hid (w.grownBy ((W.alloc (.cells (.pointer p :: RS).toArray 134)).setCell ⟨g, 0, none⟩ (.pointer (some ⟨W.heap.size, 0, none⟩))).drew (some g)) ∧
  Hid (((W.alloc (.cells (.pointer p :: RS).toArray 134)).setCell ⟨g, 0, none⟩ (.pointer (some ⟨W.heap.size, 0, none⟩))).drew.there g 1 qa8.toArray.size) := by
 have h1 := (h.alloc (.cells (.pointer p :: RS).toArray 134)).setPtr (some ⟨W.heap.size, 0, none⟩)
 have hlt := h.lt
 have hne : W.heap.size ≠ g := by omega
 have hG : W.grownBy ((W.alloc (.cells (.pointer p :: RS).toArray 134)).setCell ⟨g, 0, none⟩ (.pointer (some ⟨W.heap.size, 0, none⟩))).drew (some g) := gdrew (gset (galloc (grefl W _) _) 0 _)
 refine ⟨h1.drew, ?_, hne, hc.kept hG, qcn hg hG, h1.drew.there hl⟩
 show (World.setCell _ _ _).heap[W.heap.size]? = _
 rw [heap_setCell_other _ _ _ _ hne]; exact heap_alloc_new W _
set_option maxRecDepth 100000 in
set_option maxHeartbeats 1000000 in
theorem wbit_any (g : Nat) (L : List Bool) (x : Nat) (w : World) (hS : qar w g L) (hx : x < 4294967296) (hL : L.length ≤ 4000000000000000000) :
  Calls Tryz.prog 85 #[.pointer (some ⟨g, 0, none⟩), .int .u32 (x : Int)] w fun e w' => e = .returned (.tuple #[]) ∧ qar w' g (L ++ [x.testBit 0]) ∧ w.grownBy w' (some g) := by
 obtain ⟨p, hI, hC⟩ := hS
 have hl := qbb L (64 * (L.length / 512))
 have c65 := hI.count hl
 have cj := hI.rest (L.length % 512 / 8) (by rw [hl]; omega)
 rw [qex _ _ _ (by omega), show 64 * (L.length / 512) + L.length % 512 / 8 = L.length / 8 by omega] at cj
 have f65 := hI.free 65
 have fj := hI.free (1 + L.length % 512 / 8)
 have HV : Hid (_ = _) := bit8_val L x hx
 have HST : Hid (qao ((w.setCell ⟨g, 1 + L.length % 512 / 8, none⟩ (.int .u8 ((packB (L ++ [x.testBit 0]) (L.length / 8)).toNat : Int))).setCell ⟨g, 65, none⟩ (.int .i64 ((L.length : Int) + 1))).drew g p (restC (L ++ [x.testBit 0]) (64 * (L.length / 512))) (L.length + 1)) := (hI.step (x.testBit 0)).drew
 have HG : Hid (w.grownBy ((w.setCell ⟨g, 1 + L.length % 512 / 8, none⟩ (.int .u8 ((packB (L ++ [x.testBit 0]) (L.length / 8)).toNat : Int))).setCell ⟨g, 65, none⟩ (.int .i64 ((L.length : Int) + 1))).drew (some g)) := gdrew (gset (gset (grefl w _) _ _) _ _)
 have HC : Hid (Chain ((w.setCell ⟨g, 1 + L.length % 512 / 8, none⟩ (.int .u8 ((packB (L ++ [x.testBit 0]) (L.length / 8)).toNat : Int))).setCell ⟨g, 65, none⟩ (.int .i64 ((L.length : Int) + 1))).drew g L (L.length / 512) p) := hC.kept HG.out
 have hpb := (packB L (L.length / 8)).toNat_lt
 have HM : Hid (∀ w', qao w' g p (restC (L ++ [x.testBit 0]) (64 * (L.length / 512))) (L.length + 1) → Chain w' g L (L.length / 512) p → ¬ (L.length + 1) % 512 = 0 → qar w' g (L ++ [x.testBit 0])) := fun w' h1 h2 h3 => qar.more h1 h2 h3
 have HF : Hid (∀ w' B, qao w' g (some ⟨B, 0, none⟩) qa8 (L.length + 1) → B ≠ g → w'.heap[B]? = some (.cells (.pointer p :: restC (L ++ [x.testBit 0]) (64 * (L.length / 512))).toArray 134 (0, 0)) → Chain w' g L (L.length / 512) p → (L.length + 1) % 512 = 0 → qar w' g (L ++ [x.testBit 0])) := fun w' B h1 h2 h3 h4 h5 => qar.full h1 h2 h3 h4 h5
 have HRL : Hid ((restC (L ++ [x.testBit 0]) (64 * (L.length / 512))).length = 64) := qbb _ _
 have HRO : Hid (∀ v ∈ restC (L ++ [x.testBit 0]) (64 * (L.length / 512)), v.oneCell' = true) := qg9 _ _
 have hbd := build_piece p (L ++ [x.testBit 0]) (64 * (L.length / 512))
 have hb0 := build_noughts
 generalize hN : L.length = N at *
 generalize x.testBit 0 = b at *
 generalize (packB (L ++ [b]) (N / 8)).toNat = V at *
 generalize (packB L (N / 8)).toNat = U at *
 generalize restC (L ++ [b]) (64 * (N / 512)) = RS at *
 have i0 : (0 : Int) ≤ (N : Int) % 512 / 8 := by omega
 have i1 : (N : Int) % 512 / 8 < 64 := by omega
 have t3 : ((N : Int) % 512 / 8).toNat = N % 512 / 8 := by omega
 clear hI hC
 by_cases hf : (N + 1) % 512 = 0
 · have hf' : (((N : Int) + 1) % 512 == 0) = true := by simp; omega
  go_enter Tryz.func85, Tryz.ntmps85
  go_wp2
  go_region
  go_wp2
  rw [HV.out]
  clear c65 cj f65 fj hl HV
  generalize World.drew (World.setCell (World.setCell w _ _) _ _) = W at *
  have cp := HST.out.ptr
  have fp := HST.out.free 0
  have HRG : Hid (W.drew.rangeAt g 1 RS) := HST.out.range
  have HRI : Hid ((Tryz.prog.info? 63).map (·.size) = some RS.length) := by unfold Hid; rw [HRL.out]; exact Tryz.info64b
  have HBD : Hid (_) := hbd
  have hSA := HST.out.alloc (.cells (.pointer p :: RS).toArray 134)
  have cp2 := hSA.ptr
  have fp2 := hSA.free 0
  have HSA : Hid (qao _ _ _ _ _) := hSA
  clear hSA
  clear hbd
  refine wp_region_any (by kernel_rfl) ?_
  change wpAny _ _ _ _ 14 (Array.replicate 14 false) _ (World.drew _)
  refine takeW (i := 0) rfl (by kernel_rfl) (by kernel_rfl) (by kernel_rfl) (fun _ _ _ _ h => h) 40 rfl (.pointer (some ⟨g, 0, none⟩)) (Or.inl ⟨by rfl, by intro w; go_simp⟩) ?_
  simp only [Act.put, List.setIfInBounds_toArray, List.set_cons_zero, List.set_cons_succ]
  refine takeW (i := 1) rfl (by kernel_rfl) (by kernel_rfl) (by kernel_rfl) (fun _ _ _ _ h => h) 41 rfl (.pointer (some ⟨g, 0, none⟩)) (Or.inl ⟨by rfl, by intro w; go_simp⟩) ?_
  simp only [Act.put, List.setIfInBounds_toArray, List.set_cons_zero, List.set_cons_succ]
  refine takeW (i := 2) rfl (by kernel_rfl) (by kernel_rfl) (by kernel_rfl) (fun _ _ _ _ h => h) 42 rfl (.pointer (some ⟨g, 0, none⟩)) (Or.inl ⟨by rfl, by intro w; go_simp⟩) ?_
  simp only [Act.put, List.setIfInBounds_toArray, List.set_cons_zero, List.set_cons_succ]
  refine takeW (i := 3) rfl (by kernel_rfl) (by kernel_rfl) (by kernel_rfl) (fun _ _ _ _ h => h) 43 rfl (.pointer (some ⟨g, 0, none⟩)) (Or.inl ⟨by rfl, by intro w; go_simp⟩) ?_
  simp only [Act.put, List.setIfInBounds_toArray, List.set_cons_zero, List.set_cons_succ]
  refine takeW (i := 5) rfl (by kernel_rfl) (by kernel_rfl) (by kernel_rfl) (fun _ _ _ _ h => h) 45 rfl (.pointer (some ⟨g, 0, none⟩)) (Or.inl ⟨by rfl, by intro w; go_simp⟩) ?_
  simp only [Act.put, List.setIfInBounds_toArray, List.set_cons_zero, List.set_cons_succ]
  refine takeW (i := 6) rfl (by kernel_rfl) (by kernel_rfl) (by kernel_rfl) (fun _ _ _ _ h => h) 46 rfl (.pointer (some ⟨g, 0, none⟩)) (Or.inl ⟨by rfl, by intro w; go_simp⟩) ?_
  simp only [Act.put, List.setIfInBounds_toArray, List.set_cons_zero, List.set_cons_succ]
  refine takeW (i := 7) rfl (by kernel_rfl) (by kernel_rfl) (by kernel_rfl) (fun _ _ _ _ h => h) 47 rfl (.pointer (some ⟨g, 1, none⟩)) (Or.inl ⟨by rfl, by intro w; go_simp⟩) ?_
  simp only [Act.put, List.setIfInBounds_toArray, List.set_cons_zero, List.set_cons_succ]
  refine wpAny_ready (rs := [4, 8]) (by kernel_rfl) (by simp) ?_
  refine AllReady.cons rfl (fun K hK => ?_) (AllReady.cons rfl (fun K hK => ?_) AllReady.nil)
  · refine qat rfl (some 44) rfl (v := .pointer p) (w' := W.drew) (by go_simp) (hK _ _ ?_)
   clear hK
   simp only [Act.put, List.setIfInBounds_toArray, List.set_cons_zero, List.set_cons_succ]
   refine wpAny_ready (rs := [8]) (by kernel_rfl) (by simp) ?_
   refine AllReady.cons rfl (fun K hK => ?_) AllReady.nil
   refine armW_load rfl 48 rfl 63 _ rfl g 1 rfl RS _ HRG.out Tryz.underlying63 rfl HRI.out (hK _ _ ?_)
   clear hK
   simp only [Act.put, List.setIfInBounds_toArray, List.set_cons_zero, List.set_cons_succ]
   refine takeW (i := 9) rfl (by kernel_rfl) (by kernel_rfl) (by kernel_rfl) (fun _ _ _ _ h => h) 49 rfl (.agg (.pointer p :: RS).toArray) (Or.inl ⟨by rfl, fun w => exec_piece (vs := #[(0, .pointer p), (1, .agg RS.toArray)]) rfl (by go_simp) (HBD.out w)⟩) ?_
   simp only [Act.put, List.setIfInBounds_toArray, List.set_cons_zero, List.set_cons_succ]
   refine wpAny_ready (rs := [10]) (by kernel_rfl) (by simp) ?_
   refine AllReady.cons rfl (fun K hK => ?_) AllReady.nil
   refine qat rfl (some 50) rfl (v := .pointer (some ⟨W.heap.size, 0, none⟩)) (w' := W.drew.alloc (.cells (.pointer p :: RS).toArray 134)) (by go_simp) (hK _ _ ?_)
   clear hK
   simp only [Act.put, List.setIfInBounds_toArray, List.set_cons_zero, List.set_cons_succ]
   refine takeW (i := 11) rfl (by kernel_rfl) (by kernel_rfl) (by kernel_rfl) (fun _ _ _ _ h => h) 51 rfl (.pointer (some ⟨g, 0, none⟩)) (Or.inl ⟨by rfl, by intro w; go_simp⟩) ?_
   simp only [Act.put, List.setIfInBounds_toArray, List.set_cons_zero, List.set_cons_succ]
   refine takeW (i := 12) rfl (by kernel_rfl) (by kernel_rfl) (by kernel_rfl) (fun _ _ _ _ h => h) 52 rfl (.pointer (some ⟨g, 0, none⟩)) (Or.inl ⟨by rfl, by intro w; go_simp⟩) ?_
   simp only [Act.put, List.setIfInBounds_toArray, List.set_cons_zero, List.set_cons_succ]
   refine wpAny_ready (rs := [13]) (by kernel_rfl) (by simp) ?_
   refine AllReady.cons rfl (fun K hK => ?_) AllReady.nil
   refine armW rfl ?_
   go_simp
   refine hK _ _ ?_
   clear hK
   refine wpAny_done (by kernel_rfl) ?_ _
   obtain ⟨G1, G2, G3, G4, G5, G6⟩ := after_full HST.out HC.out HG.out HRL.out
   clear cp fp cp2 fp2 HSA HRG HRI HBD HST HC HG
   generalize World.drew (World.setCell (World.alloc W _) _ _) = W5 at *
   go_wp2_with (refine wpList_store_mid rfl 63 _ _ rfl g 1 qa8.toArray rfl (by rfl) G6.out n64_info n64_one ?_)
   exact bodyPost_end (results_none rfl _ _ _) rfl ⟨rfl, HF.out _ _ (G1.out.setAll HRL.out qa8 rfl) G3.out (by rw [qbf _ _ G3.out]; exact G2.out) (G4.out.kept (qe4 _ _ _ _)) hf, qcn G5.out (qe4 _ _ _ _)⟩
  · refine armW_load rfl 48 rfl 63 _ rfl g 1 rfl RS _ HRG.out Tryz.underlying63 rfl HRI.out (hK _ _ ?_)
   clear hK
   simp only [Act.put, List.setIfInBounds_toArray, List.set_cons_zero, List.set_cons_succ]
   refine wpAny_ready (rs := [4]) (by kernel_rfl) (by simp) ?_
   refine AllReady.cons rfl (fun K hK => ?_) AllReady.nil
   refine qat rfl (some 44) rfl (v := .pointer p) (w' := W.drew) (by go_simp) (hK _ _ ?_)
   clear hK
   simp only [Act.put, List.setIfInBounds_toArray, List.set_cons_zero, List.set_cons_succ]
   refine takeW (i := 9) rfl (by kernel_rfl) (by kernel_rfl) (by kernel_rfl) (fun _ _ _ _ h => h) 49 rfl (.agg (.pointer p :: RS).toArray) (Or.inl ⟨by rfl, fun w => exec_piece (vs := #[(0, .pointer p), (1, .agg RS.toArray)]) rfl (by go_simp) (HBD.out w)⟩) ?_
   simp only [Act.put, List.setIfInBounds_toArray, List.set_cons_zero, List.set_cons_succ]
   refine wpAny_ready (rs := [10]) (by kernel_rfl) (by simp) ?_
   refine AllReady.cons rfl (fun K hK => ?_) AllReady.nil
   refine qat rfl (some 50) rfl (v := .pointer (some ⟨W.heap.size, 0, none⟩)) (w' := W.drew.alloc (.cells (.pointer p :: RS).toArray 134)) (by go_simp) (hK _ _ ?_)
   clear hK
   simp only [Act.put, List.setIfInBounds_toArray, List.set_cons_zero, List.set_cons_succ]
   refine takeW (i := 11) rfl (by kernel_rfl) (by kernel_rfl) (by kernel_rfl) (fun _ _ _ _ h => h) 51 rfl (.pointer (some ⟨g, 0, none⟩)) (Or.inl ⟨by rfl, by intro w; go_simp⟩) ?_
   simp only [Act.put, List.setIfInBounds_toArray, List.set_cons_zero, List.set_cons_succ]
   refine takeW (i := 12) rfl (by kernel_rfl) (by kernel_rfl) (by kernel_rfl) (fun _ _ _ _ h => h) 52 rfl (.pointer (some ⟨g, 0, none⟩)) (Or.inl ⟨by rfl, by intro w; go_simp⟩) ?_
   simp only [Act.put, List.setIfInBounds_toArray, List.set_cons_zero, List.set_cons_succ]
   refine wpAny_ready (rs := [13]) (by kernel_rfl) (by simp) ?_
   refine AllReady.cons rfl (fun K hK => ?_) AllReady.nil
   refine armW rfl ?_
   go_simp
   refine hK _ _ ?_
   clear hK
   refine wpAny_done (by kernel_rfl) ?_ _
   obtain ⟨G1, G2, G3, G4, G5, G6⟩ := after_full HST.out HC.out HG.out HRL.out
   clear cp fp cp2 fp2 HSA HRG HRI HBD HST HC HG
   generalize World.drew (World.setCell (World.alloc W _) _ _) = W5 at *
   go_wp2_with (refine wpList_store_mid rfl 63 _ _ rfl g 1 qa8.toArray rfl (by rfl) G6.out n64_info n64_one ?_)
   exact bodyPost_end (results_none rfl _ _ _) rfl ⟨rfl, HF.out _ _ (G1.out.setAll HRL.out qa8 rfl) G3.out (by rw [qbf _ _ G3.out]; exact G2.out) (G4.out.kept (qe4 _ _ _ _)) hf, qcn G5.out (qe4 _ _ _ _)⟩
 · have hf' : (((N : Int) + 1) % 512 == 0) = false := by simp; omega
  go_enter Tryz.func85, Tryz.ntmps85
  go_wp2
  go_region
  go_wp2
  rw [HV.out]
  exact bodyPost_end (results_none rfl _ _ _) rfl ⟨rfl, HM.out _ HST.out HC.out hf, HG.out⟩
end Go.Proofs.YthkppipdflmekaaGreat
