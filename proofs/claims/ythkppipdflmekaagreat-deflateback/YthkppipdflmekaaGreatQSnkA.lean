/- Contract of (*bitio.Sink).All. -/
import Derived.Test.YthkppipdflmekaaGreatQDPrt
import Derived.Test.YthkppipdflmekaaGreatQAllM
import Derived.Test.YthkppipdflmekaaGreatQPutA
set_option maxRecDepth 100000
set_option maxHeartbeats 1000000
namespace Go.Proofs.YthkppipdflmekaaGreat
open Go.RowKit
attribute [local go_sem ↓] Go.wp_at_zero Go.wp_at_succ
set_option linter.unusedVariables false
set_option linter.unusedSimpArgs false
theorem Tryz.infoB : (Tryz.prog.info? 5).map (·.size) = some 1 := by kernel_rfl
theorem qzi (L : List Bool) (n : Nat) (hn : n ≤ 1000000000000) (W : World) : (Instr.makeSlice 54 (.int .i64 (n : Int)) (.int .i64 (n : Int))).run Tryz.prog W = .ok (.slice (some ⟨W.heap.size, 0, none⟩) n n) (W.alloc (.cells (outC L n n).toArray 5)) := by
 obtain ⟨i0, hi, hz0, hz1, hz2⟩ := info_parts Tryz.infoU8
 have h := run_make (P := Tryz.prog) W 54 5 i0 (.int .u8 0) Tryz.underlying54 hi hz0 .i64 .i64 (n : Int) (n : Int) (by omega) (by omega) (by rw [hz2]; omega) (by omega)
 have e : madeCells (Value.int .u8 0).cells ((n : Int).toNat * i0.size) = (outC L n n).toArray := by
  rw [qtm, hz1]
  apply Array.ext'
  apply List.ext_getElem?
  intro j
  by_cases hj : j < n
  · simp [madeCells, Value.cells, hj, Nat.mod_one]
  · rw [List.getElem?_eq_none (by simp [madeCells]; omega), List.getElem?_eq_none (by simp; omega)]
 rw [e] at h
 simpa using h
def dpAt (B n f : Nat) : Option Addr := if n = f then some ⟨B, 0, none⟩ else some ⟨B, f, none⟩
theorem qw1 (B n f : Nat) (h : n ≠ f) : dpAt B n f = some ⟨B, f, none⟩ := by unfold dpAt; rw [if_neg h]
theorem qr0 {o : Oper} {ev : Operand → Value} {x lo : Operand} {B n f : Nat} (ho : o.op = .slice 54 x (some lo) none none) (hx : ev x = .slice (some ⟨B, 0, none⟩) n n) (hl : ev lo = .int .i64 (f : Int)) (h : f ≤ n) (w : World) :
    (execOp ev o).run Tryz.prog w = .ok (.value (.slice (dpAt B n f) (n - f) (n - f))) w := by
 have h0 : (0 : Int) ≤ (f : Int) := by omega
 have h1 : (f : Int) ≤ (n : Int) := by omega
 unfold execOp
 simp only [ho, Option.map_some, Option.map_none, hx, hl]
 go_simp
 unfold dpAt
 by_cases e : n = f
 · subst e; simp
 · simp [e]
def AO (w : World) (g : Nat) (L : List Bool) (B n k : Nat) (wr : World) : Prop := wr.heap[B]? = some (.cells (outC L n k).toArray 5 (0, 0)) ∧ Below w.heap.size w wr
theorem qxn (g : Nat) (L : List Bool) (w : World) (hS : qav w g L) (hL : L.length ≤ 1000000000000) :
    Calls Tryz.prog 27 #[.pointer (some ⟨g, 0, none⟩)] w fun e w' => e = .returned (.string (qb8 L)) ∧ Below w.heap.size w w' := by
 have hlt := hS.lt
 obtain ⟨p, hI, hC⟩ := hS
 have c65 := hI.count (qbn _ _)
 have c0 := hI.ptr
 obtain ⟨n, hn⟩ : ∃ n, n = (L.length + 7) / 8 := ⟨_, rfl⟩
 have hmk := qzi L n (by omega)
 have HI : Hid (qap w g p (qb1 L (64 * (L.length / 512))) L.length) := hI
 have HC : Hid (qdh w g L (L.length / 512) p) := hC
 clear hI hC
 have hBF : Hid (∀ W : World, Calls Tryz.prog 58 #[.int .i64 (L.length : Int)] W fun e w' => e = .returned (.int .i64 (n : Int)) ∧ w' = W) := fun W => by rw [hn]; exact qg9 _ W (by omega)
 have HNN : Hid (n = (L.length + 7) / 8) := hn
 generalize hN : L.length = N at *
 clear hn
 obtain ⟨B, hB⟩ : ∃ B, B = w.heap.size := ⟨_, rfl⟩
 obtain ⟨F, hF⟩ : ∃ F, F = 64 * (N / 512) := ⟨_, rfl⟩
 obtain ⟨C, hCC⟩ : ∃ C, C = (N % 512 + 7) / 8 := ⟨_, rfl⟩
 have hnFC : n = F + C := by have := HNN.out; omega
 have hC64 : C ≤ 64 := by omega
 have HA0 : Hid (AO w g L B n (F + C) (w.alloc (.cells (outC L n n).toArray 5)).drew) := by
  rw [hB, ← hnFC]; exact ⟨heap_alloc_new w _, (((Below.refl _ w).alloc (Nat.le_refl _) _)).drew⟩
 have HF0 : Hid (∀ j v, ((qb1 L F).take C)[j]? = some v → (w.alloc (.cells (outC L n n).toArray 5)).drew.cell? ((⟨g, 1, none⟩ : Addr).add j) = some v) := fun j v hv => by
  have hr := World.rangeAt_alloc HI.out.range (.cells (outC L n n).toArray 5)
  rw [Addr.add_mid]
  show (w.alloc _).cell? _ = _
  rw [← hF] at hr
  refine hr j v ?_
  rw [List.getElem?_take] at hv
  by_cases hj : j < C
  · rwa [if_pos hj] at hv
  · rw [if_neg hj] at hv; cases hv
 have HLT : Hid (((qb1 L F).take C).length = C) := by unfold Hid; rw [List.length_take, qbn]; omega
 have hFi : (N : Int) / 512 * 64 = (F : Int) := by omega
 have HB : Hid (B = w.heap.size) := hB
 have HFF : Hid (F = 64 * (N / 512)) := hF
 have HFC : Hid (n = F + C) := hnFC
 have hFn : F ≤ n := by omega
 have hFn2 : n - F = C := by omega
 clear hB hF hCC hnFC
 go_enter Tryz.func27, Tryz.ntmps27
 go_wp2_with (go_at_call 58; refine (hBF.out _).mono ?_; rintro e w1 ⟨rfl, rfl⟩)
 rw [← HB.out]
 refine wp_region_any (by kernel_rfl) ?_
 change wpAny _ _ _ _ 8 (Array.replicate 8 false) _ (World.drew _)
 refine qaq (i := 0) rfl (by kernel_rfl) (by kernel_rfl) (by kernel_rfl) (fun _ _ _ _ h => h) 18 rfl (.slice (some ⟨B, 0, none⟩) n n) (Or.inl ⟨by rfl, by intro w; go_simp⟩) ?_
 simp only [Act.put, List.setIfInBounds_toArray, List.set_cons_zero, List.set_cons_succ]
 refine qaq (i := 1) rfl (by kernel_rfl) (by kernel_rfl) (by kernel_rfl) (fun _ _ _ _ h => h) 19 rfl (.int .i64 (F : Int)) (Or.inl ⟨by rfl, by intro w; go_simp⟩) ?_
 simp only [Act.put, List.setIfInBounds_toArray, List.set_cons_zero, List.set_cons_succ]
 refine qaq (i := 2) rfl (by kernel_rfl) (by kernel_rfl) (by kernel_rfl) (fun _ _ _ _ h => h) 20 rfl (.slice (dpAt B n F) (n - F) (n - F)) (Or.inl ⟨by rfl, fun w => qr0 rfl (by rfl) (by rfl) (by omega) w⟩) ?_
 simp only [Act.put, List.setIfInBounds_toArray, List.set_cons_zero, List.set_cons_succ]
 refine qaq (i := 3) rfl (by kernel_rfl) (by kernel_rfl) (by kernel_rfl) (fun _ _ _ _ h => h) 21 rfl (.pointer (some ⟨g, 0, none⟩)) (Or.inl ⟨by rfl, by intro w; go_simp⟩) ?_
 simp only [Act.put, List.setIfInBounds_toArray, List.set_cons_zero, List.set_cons_succ]
 refine qaq (i := 4) rfl (by kernel_rfl) (by kernel_rfl) (by kernel_rfl) (fun _ _ _ _ h => h) 22 rfl (.pointer (some ⟨g, 0, none⟩)) (Or.inl ⟨by rfl, by intro w; go_simp⟩) ?_
 simp only [Act.put, List.setIfInBounds_toArray, List.set_cons_zero, List.set_cons_succ]
 refine qaq (i := 5) rfl (by kernel_rfl) (by kernel_rfl) (by kernel_rfl) (fun _ _ _ _ h => h) 23 rfl (.pointer (some ⟨g, 1, none⟩)) (Or.inl ⟨by rfl, by intro w; go_simp⟩) ?_
 simp only [Act.put, List.setIfInBounds_toArray, List.set_cons_zero, List.set_cons_succ]
 refine qaq (i := 6) rfl (by kernel_rfl) (by kernel_rfl) (by kernel_rfl) (fun _ _ _ _ h => h) 24 rfl (.slice (some ⟨g, 1, none⟩) 64 64) (Or.inl ⟨by rfl, by intro w; go_simp⟩) ?_
 simp only [Act.put, List.setIfInBounds_toArray, List.set_cons_zero, List.set_cons_succ]
 refine wpAny_ready (rs := [7]) (by kernel_rfl) (by simp) ?_
 refine AllReady.cons rfl (fun K hK => ?_) AllReady.nil
 refine qod rfl 25 rfl (.tmp 20) (.tmp 24) 54 54 rfl 5 Tryz.underlying54 Tryz.infoB (dpAt B n F) (some ⟨g, 1, none⟩) (n - F) (n - F) 64 64 (by rfl) (by rfl) B F (outC L n (F + C)) 5 HA0.out.1 ((qb1 L F).take C) (by rw [HLT.out, hFn2]; exact (Nat.min_eq_right hC64).symm) (fun h0 => ⟨qw1 B n F (by rw [HLT.out] at h0; omega), _, rfl, HF0.out⟩) (by rw [qez, HLT.out]; have := HFC.out; omega) (fun v hv => qil _ _ v (List.mem_of_mem_take hv)) w1.heap.size w1 HA0.out.2 (by rw [HB.out]; exact Nat.le_refl _) (fun w5 hw5 hb5 => ?_)
 refine hK _ _ ?_
 clear hK
 simp only [Act.put, List.setIfInBounds_toArray, List.set_cons_zero, List.set_cons_succ]
 refine wpAny_done (by kernel_rfl) ?_ _
 rw [qis L n F C hC64 (by have := HFC.out; omega)] at hw5
 have HA5 : Hid (AO w1 g L B n (64 * (N / 512)) w5) := by rw [← HFF.out]; exact ⟨hw5, hb5⟩
 have c0' : w5.cell? ⟨g, 0, none⟩ = some (.pointer p) := by rw [hb5.cell (p := ⟨g, 0, none⟩) hlt]; exact c0
 clear hw5 hb5 HA0 HF0 c0 c65 hmk hBF HI hFn2 HLT hFn HFC hC64
 go_wp2
 clear c0'
 go_loopw [4, 5] (fun f p wr => ∃ (m : Nat) (q : Option Addr), m ≤ N / 512 ∧ f = .int .i64 ((64 * m : Nat) : Int) ∧ p = .pointer q ∧ qdh w1 g L m q ∧ AO w1 g L B n (64 * m) wr) (fun f _ _ => (intOf f).toNat)
 case atStart => exact ⟨N / 512, p, Nat.le_refl _, by rw [HFF.out], rfl, HC.out, HA5.out⟩
 case round =>
  clear HA5 HC hFi
  obtain ⟨m, q, hm, rfl, rfl, hC, hA⟩ := hrel
  cases m with
  | zero =>
   obtain rfl : q = none := hC
   have hcv := qz5 (P := Tryz.prog) (dst := 9) (cap := n) Tryz.underlying54 Tryz.underlying5 Tryz.underlying9 (by rw [hN]; exact HNN.out) hA.1
   have HBl : Hid (Below w1.heap.size w1 wr) := hA.2
   clear hA
   go_wp2
   go_ret
   exact ⟨rfl, HBl.out⟩
  | succ m =>
   obtain ⟨b, q', rfl, hbg, hblk, hC'⟩ := hC
   have hbl := qgs hblk
   have hblk' : wr.heap[b]? = some (.cells (qkg q' L m) 134 (0, 0)) := (hA.2.block b hbl).trans hblk
   have cb : wr.cell? ⟨b, 0, none⟩ = some (.pointer q') := by rw [cell_of_row _ _ _ _ _ _ hblk']; rfl
   have HRB : Hid (∀ j v, ((qb1 L (64 * m)).take 64)[j]? = some v → wr.drew.cell? ((⟨b, 1, none⟩ : Addr).add j) = some v) := fun j v hv => by
    rw [Addr.add_mid]
    show wr.cell? _ = _
    rw [cell_of_row _ _ _ _ _ _ hblk', List.take_of_length_le (by rw [qbn]; exact Nat.le_refl _)] at *
    simpa [qkg, Nat.add_comm 1 j] using hv
   have HAD : Hid (AO w1 g L B n (64 * m + 64) wr.drew) := ⟨hA.1, hA.2.drew⟩
   have hmn : 64 * m + 64 ≤ n := by have := HNN.out; omega
   have HL64 : Hid (((qb1 L (64 * m)).take 64).length = 64) := by unfold Hid; rw [List.length_take, qbn]; rfl
   have hne : n ≠ 64 * m := by omega
   have HM : Hid (Nat.min 64 (n - 64 * m) = 64) := Nat.min_eq_left (by omega)
   have hfi : 64 * ((m : Int) + 1) - 64 = ((64 * m : Nat) : Int) := by omega
   clear hA hblk'
   generalize hG : 64 * m = G at *
   go_wp2
   refine wp_region_any (by kernel_rfl) ?_
   change wpAny _ _ _ _ 8 (Array.replicate 8 false) _ (World.drew _)
   refine qaq (i := 0) rfl (by kernel_rfl) (by kernel_rfl) (by kernel_rfl) (fun _ _ _ _ h => h) 38 rfl (.slice (some ⟨B, 0, none⟩) n n) (Or.inl ⟨by rfl, by intro w; go_simp⟩) ?_
   simp only [Act.put, List.setIfInBounds_toArray, List.set_cons_zero, List.set_cons_succ]
   refine qaq (i := 1) rfl (by kernel_rfl) (by kernel_rfl) (by kernel_rfl) (fun _ _ _ _ h => h) 39 rfl (.int .i64 (G : Int)) (Or.inl ⟨by rfl, by intro w; go_simp⟩) ?_
   simp only [Act.put, List.setIfInBounds_toArray, List.set_cons_zero, List.set_cons_succ]
   refine qaq (i := 2) rfl (by kernel_rfl) (by kernel_rfl) (by kernel_rfl) (fun _ _ _ _ h => h) 40 rfl (.slice (dpAt B n G) (n - G) (n - G)) (Or.inl ⟨by rfl, fun w => qr0 rfl (by rfl) (by rfl) (by omega) w⟩) ?_
   simp only [Act.put, List.setIfInBounds_toArray, List.set_cons_zero, List.set_cons_succ]
   refine qaq (i := 3) rfl (by kernel_rfl) (by kernel_rfl) (by kernel_rfl) (fun _ _ _ _ h => h) 41 rfl (.pointer (some ⟨b, 0, none⟩)) (Or.inl ⟨by rfl, by intro w; go_simp⟩) ?_
   simp only [Act.put, List.setIfInBounds_toArray, List.set_cons_zero, List.set_cons_succ]
   refine qaq (i := 4) rfl (by kernel_rfl) (by kernel_rfl) (by kernel_rfl) (fun _ _ _ _ h => h) 42 rfl (.pointer (some ⟨b, 0, none⟩)) (Or.inl ⟨by rfl, by intro w; go_simp⟩) ?_
   simp only [Act.put, List.setIfInBounds_toArray, List.set_cons_zero, List.set_cons_succ]
   refine qaq (i := 5) rfl (by kernel_rfl) (by kernel_rfl) (by kernel_rfl) (fun _ _ _ _ h => h) 43 rfl (.pointer (some ⟨b, 1, none⟩)) (Or.inl ⟨by rfl, by intro w; go_simp⟩) ?_
   simp only [Act.put, List.setIfInBounds_toArray, List.set_cons_zero, List.set_cons_succ]
   refine qaq (i := 6) rfl (by kernel_rfl) (by kernel_rfl) (by kernel_rfl) (fun _ _ _ _ h => h) 44 rfl (.slice (some ⟨b, 1, none⟩) 64 64) (Or.inl ⟨by rfl, by intro w; go_simp⟩) ?_
   simp only [Act.put, List.setIfInBounds_toArray, List.set_cons_zero, List.set_cons_succ]
   refine wpAny_ready (rs := [7]) (by kernel_rfl) (by simp) ?_
   refine AllReady.cons rfl (fun K hK => ?_) AllReady.nil
   refine qod rfl 45 rfl (.tmp 40) (.tmp 44) 54 54 rfl 5 Tryz.underlying54 Tryz.infoB (dpAt B n G) (some ⟨b, 1, none⟩) (n - G) (n - G) 64 64 (by rfl) (by rfl) B G (outC L n (G + 64)) 5 HAD.out.1 ((qb1 L G).take 64) (by rw [HL64.out, HM.out]) (fun _ => ⟨qw1 B n G hne, _, rfl, HRB.out⟩) (by rw [qez, HL64.out]; omega) (fun v hv => qil _ _ v (List.mem_of_mem_take hv)) w1.heap.size w1 HAD.out.2 (by rw [HB.out]; exact Nat.le_refl _) (fun w5 hw5 hb5 => ?_)
   refine hK _ _ ?_
   clear hK
   simp only [Act.put, List.setIfInBounds_toArray, List.set_cons_zero, List.set_cons_succ]
   refine wpAny_done (by kernel_rfl) ?_ _
   rw [qis L n G 64 (Nat.le_refl _) hmn] at hw5
   have cb5 : w5.cell? ⟨b, 0, none⟩ = some (.pointer q') := by rw [hb5.cell (p := ⟨b, 0, none⟩) hbl, cell_of_row _ _ _ _ _ _ hblk]; rfl
   have HAF : Hid (AO w1 g L B n (64 * m) w5) := by unfold Hid; rw [hG]; exact ⟨hw5, hb5⟩
   clear cb hw5 hb5 HAD HRB
   go_wp2
   exact ⟨⟨m, q', by omega, congrArg _ (by omega), rfl, hC', HAF.out⟩, by simp [intOf]; omega⟩
end Go.Proofs.YthkppipdflmekaaGreat
