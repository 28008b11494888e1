/- Contract of match.Tokens. -/
import Derived.Test.YthkppipdflmekaaGreatQFindS
import Derived.Deep.DeepCutAuto
import Derived.Laws.ResultCell
import Derived.Deep.RegionHeld
import Derived.Laws.MakeOwn
set_option maxRecDepth 100000
set_option maxHeartbeats 4000000
namespace Go.Proofs.YthkppipdflmekaaGreat
open Go.RowKit Go.WideMaps Go.Maps
attribute [local go_sem ↓] Go.wp_at_zero Go.wp_at_succ
set_option linter.unusedVariables false
theorem qzu {w : World} {B gf gm n : Nat} {s : ByteArray} {tr : Nat} (h : qak w B gf gm s tr n) (hn : n + 3 ≤ s.size) (hs : s.size ≤ 100000000) : ∀ m, (Instr.lookup 113 (.map (some gm)) (.string (s.extract n (n + 3))) false).run Tryz.prog (w.drewN m) = .ok (.int .i64 (qda s n : Int)) (w.drewN m) := by
 intro m
 obtain ⟨_, _, bv, D, h3, h4, h5, h6⟩ := h
 have h4' : (w.drewN m).ownsMap Tryz.prog 9 (plainElem Tryz.prog 3) gm n D := h4
 obtain ⟨c, hrun, hat, _⟩ := h4'.lookup_int qus Tryz.underlying113 Tryz.underlying3 (q34 _) (q0z s n hn hs)
 rw [h5 (key3 s n)] at hat
 simp only [DataW.lit.injEq, Lit.int.injEq, true_and] at hat
 subst hat
 exact hrun
theorem qi7 {w : World} {B gf gm n p : Nat} {s : ByteArray} {tr : Nat} (h : qak w B gf gm s tr n) (hp : p < n) : ∃ g cap, w.cell? ⟨gf, 3, none⟩ = some (.slice (some ⟨g, 0, none⟩) n cap) ∧ w.cell? ⟨g, p, none⟩ = some (.int .i64 (qda s p : Int)) := by
 obtain ⟨_, _, bv, D, h3, h4, h5, h6⟩ := h
 obtain ⟨g, cap, rfl, _⟩ := qch h6 (by omega)
 refine ⟨g, cap, ?_, ?_⟩
 · rw [cell_of_row _ _ _ _ _ _ h3]; rfl
 · rw [h6.cellAt p (by omega), q3s s n p hp]
def qes (s : ByteArray) (tr at_ top j place : Nat) (best : Tok) : Prop := qbw s tr at_ = qjh s at_ top (tr - j) place best ∧ qfn s at_ place ∧ qp6 s at_ best
theorem qpu {s : ByteArray} {tr at_ : Nat} (h : at_ + 3 ≤ s.size) : qes s tr at_ (min 258 (s.size - at_)) 0 (qda s at_) qct := by
 refine ⟨?_, qq5 s at_, .inl rfl⟩
 unfold qbw
 rw [if_neg (by omega)]; rfl
theorem qn2 {s : ByteArray} {tr at_ top j place : Nat} {best : Tok} (h : qes s tr at_ top j place best) (he : place = 0 ∨ tr ≤ j ∨ (top : Int) ≤ best.l ∨ 32768 < at_ - (place - 1)) : qbw s tr at_ = best := by
 rw [h.1]
 cases hf : tr - j with
 | zero => rfl
 | succ f =>
  rw [qjh]
  split
  · rfl
  · rename_i h1
    rw [if_pos (by omega)]
theorem qt3 {s : ByteArray} {tr at_ j place : Nat} {best : Tok} (h : qes s tr at_ (min 258 (s.size - at_)) j place best) (ha : at_ + 3 ≤ s.size) (h1 : 0 < place) (h2 : j < tr) (h3 : best.l < ((min 258 (s.size - at_) : Nat) : Int)) (h4 : at_ - (place - 1) ≤ 32768) :
    qes s tr at_ (min 258 (s.size - at_)) (j + 1) (qda s (place - 1)) (if best.l < (qbz s (place - 1) at_ (min 258 (s.size - at_)) : Int) then ⟨0, qbz s (place - 1) at_ (min 258 (s.size - at_)), ((at_ - (place - 1) : Nat) : Int)⟩ else best) := by
 obtain ⟨e, hp, hg⟩ := h
 refine ⟨?_, qke hp h1, ?_⟩
 · rw [e, show tr - j = (tr - (j + 1)) + 1 by omega, qjh, if_neg (by omega), if_neg (by omega)]
 · split
   · exact qro hp h1 ha (by omega)
   · exact hg
theorem qak.setTok {w : World} {B gf gm n b : Nat} {s : ByteArray} {tr : Nat} {c : Array Value} {p : Nat × Nat} (h : qak w B gf gm s tr n) (hb : w.heap[b]? = some (.cells c 95 p)) {w' : World} (hg : w.grownBy w' (some b)) : qak w' B gf gm s tr n := by
 obtain ⟨h1, h2, bv, D, h3, h4, h5, h6⟩ := h
 refine ⟨h1, h2, bv, D, qa3 hg h3 (fun e => ?_), h4.kept hg (fun e => ?_), h5, h6.kept hg (.inr (fun e => qcd h6 hb (by decide) e.symm))⟩
 · obtain rfl : gf = b := by cases e; rfl
   rw [h3] at hb; simp only [Option.some.injEq, Obj.cells.injEq] at hb
   exact absurd hb.2.1 (by decide)
 · exact qdk h4 hb (by cases e; rfl)
theorem qi2 {w w1 w2 : World} {g : Nat} (h : qb9 w w1) (hg : w1.grownBy w2 (some g)) (hn : w.heap.size ≤ g) : qb9 w w2 :=
 ⟨Nat.le_trans h.1 hg.size, fun b c p hb => qa3 hg (h.2 b c p hb) (fun e => by
  have := (Array.getElem?_eq_some_iff.1 hb).1
  cases e; omega)⟩
theorem qlr (B gf gm : Nat) (s : ByteArray) (tr n at_ : Nat) (w : World) (hF : qak w B gf gm s tr n) (hs : s.size ≤ 100000000) (ha : at_ ≤ s.size) (hn : n ≤ s.size) (hB : B ≤ w.heap.size) (h3 : s.size < at_ + 3) :
    Calls Tryz.prog 44 #[.pointer (some ⟨gf, 0, none⟩), .int .i64 (at_ : Int)] w fun e w' => e = .returned (tv (qbw s tr at_)) ∧ qak w' B gf gm s tr (qg5 s n at_) ∧ Below B w w' ∧ qb9 w w' := by
 have HL : Hid (qbw s tr at_ = qct) := by unfold Hid qbw; rw [if_pos h3]
 have hF0 := hF.below ((Below.refl _ w).alloc (Nat.le_refl _) (.cells #[.int .u8 0, .int .i64 0, .int .i64 0] 95))
 have HB0 : Hid (Below B w (w.alloc (.cells #[.int .u8 0, .int .i64 0, .int .i64 0] 95))) := (Below.refl _ w).alloc hB _
 have HSee : Hid (Calls _ _ _ _ _) := qu6 B gf gm s tr n at_ _ hF0 hs (by omega) hn
 have HN : Hid ((w.alloc (.cells #[.int .u8 0, .int .i64 0, .int .i64 0] 95)).heap[w.heap.size]? = some (.cells #[.int .u8 0, .int .i64 0, .int .i64 0] 95 (0, 0))) := heap_alloc_new w _
 clear hF0 hF
 go_enter Tryz.func44, Tryz.ntmps44
 go_wp2_with fail
 refine (Hid.out HSee : Calls _ _ _ _ _).mono ?_
 rintro e w1 ⟨rfl, hF1, hB1, hK1⟩
 have hN1 := hK1.2 _ _ _ HN.out
 obtain ⟨c0, c1, c2⟩ := hF1.cells
 obtain ⟨r0, r1, r2, f0, f1, f2⟩ := qaf hN1
 have HF1 : Hid (qak (put3 w1 w.heap.size qct) B gf gm s tr (qg5 s n at_)) := hF1.setTok hN1 (qa1 _ _ _)
 have HB1 : Hid (Below B w (put3 w1 w.heap.size qct)) := (HB0.out.trans hB1).grown (qa1 _ _ _) (Nat.le_trans hB (HB0.out.trans hB1).size) (fun j hj => by cases hj; exact hB)
 have HK1 : Hid (qb9 w (put3 w1 w.heap.size qct)) := qi2 ((qdd w _).trans hK1) (qa1 _ _ _) (Nat.le_refl _)
 clear hF1 hB1 hK1 hN1 HSee HN HB0
 go_wp2
 exact bodyPost_ret (v := .agg #[.int .u8 0, .int .i64 0, .int .i64 0]) (by simp [results, Tryz.results44, go_sem, *]) rfl ⟨by rw [HL.out]; rfl, HF1.out, HB1.out, HK1.out⟩
theorem qpe {w wr : World} {B gf gm n : Nat} {s : ByteArray} {tr : Nat} {x y z : Value} (hF : qak wr B gf gm s tr n) (hN : wr.heap[w.heap.size]? = some (.cells #[x, y, z] 95 (0, 0))) (hB : Below B w wr) (hK : qb9 w wr) (hB0 : B ≤ w.heap.size) (t : Tok) :
    qak (put3 wr w.heap.size t) B gf gm s tr n ∧ Below B w (put3 wr w.heap.size t) ∧ qb9 w (put3 wr w.heap.size t) :=
 ⟨hF.setTok hN (qa1 _ _ _), hB.grown (qa1 _ _ _) (Nat.le_trans hB0 hK.1) (fun j hj => by cases hj; exact hB0), qi2 hK (qa1 _ _ _) (Nat.le_refl _)⟩
def qeb (w wr : World) (B gf gm gb : Nat) (s : ByteArray) (tr at_ : Nat) (best : Tok) : Prop := wr.heap[gb]? = some (.cells #[.int .u8 (best.b : Int), .int .i64 best.l, .int .i64 best.d] 95 (0, 0)) ∧ wr.heap[w.heap.size]? = some (.cells #[.int .u8 0, .int .i64 0, .int .i64 0] 95 (0, 0)) ∧ qak wr B gf gm s tr at_ ∧ Below B w wr ∧ qb9 w wr
theorem qeb.drewN {w wr : World} {B gf gm gb : Nat} {s : ByteArray} {tr at_ : Nat} {best : Tok} (h : qeb w wr B gf gm gb s tr at_ best) (m : Nat) : qeb w (wr.drewN m) B gf gm gb s tr at_ best :=
 ⟨h.1, h.2.1, h.2.2.1, below_drewN h.2.2.2.1 m, h.2.2.2.2.trans (qi3 _ m)⟩
theorem qeb.put {w wr : World} {B gf gm gb : Nat} {s : ByteArray} {tr at_ : Nat} {best : Tok} (h : qeb w wr B gf gm gb s tr at_ best) (hg : w.heap.size < gb) (hB0 : B ≤ w.heap.size) (t : Tok) : qeb w (put3 wr gb t) B gf gm gb s tr at_ t :=
 ⟨qm2 h.1 t, qa3 (qa1 _ _ _) h.2.1 (fun e => by cases e; omega), h.2.2.1.setTok h.1 (qa1 _ _ _), h.2.2.2.1.grown (qa1 _ _ _) (Nat.le_trans hB0 h.2.2.2.2.1) (fun j hj => by cases hj; omega), qi2 h.2.2.2.2 (qa1 _ _ _) (by omega)⟩
theorem qni (B gf gm : Nat) (s : ByteArray) (tr n at_ : Nat) (w : World) (hF : qak w B gf gm s tr n) (hs : s.size ≤ 100000000) (hn : n ≤ at_) (htr : tr ≤ 1000000) (hB : B ≤ w.heap.size) (h3 : at_ + 3 ≤ s.size) :
    Calls Tryz.prog 44 #[.pointer (some ⟨gf, 0, none⟩), .int .i64 (at_ : Int)] w fun e w' => e = .returned (tv (qbw s tr at_)) ∧ qak w' B gf gm s tr at_ ∧ Below B w w' ∧ qb9 w w' := by
 have hF0 := hF.below ((Below.refl _ w).alloc (Nat.le_refl _) (.cells #[.int .u8 0, .int .i64 0, .int .i64 0] 95))
 have HB0 : Hid (Below B w (w.alloc (.cells #[.int .u8 0, .int .i64 0, .int .i64 0] 95))) := (Below.refl _ w).alloc hB _
 have hse : qg5 s n at_ = at_ := by unfold qg5; split <;> omega
 have hsee := qu6 B gf gm s tr n at_ _ hF0 hs (by omega) (by omega)
 rw [hse] at hsee
 have HSee : Hid (Calls _ _ _ _ _) := hsee
 have HN : Hid ((w.alloc (.cells #[.int .u8 0, .int .i64 0, .int .i64 0] 95)).heap[w.heap.size]? = some (.cells #[.int .u8 0, .int .i64 0, .int .i64 0] 95 (0, 0))) := heap_alloc_new w _
 clear hF0 hF hsee hse
 go_enter Tryz.func44, Tryz.ntmps44
 go_wp2_with fail
 refine (Hid.out HSee : Calls _ _ _ _ _).mono ?_
 rintro e w1 ⟨rfl, hF1, hB1, hK1⟩
 have hN1 := hK1.2 _ _ _ HN.out
 obtain ⟨c0, c1, c2⟩ := hF1.cells
 have HF1 : Hid (qak w1 B gf gm s tr at_) := hF1
 have HB1 : Hid (Below B w w1) := HB0.out.trans hB1
 have HK1 : Hid (qb9 w w1) := (qdd w _).trans hK1
 have HN1 : Hid (w1.heap[w.heap.size]? = some (.cells #[.int .u8 0, .int .i64 0, .int .i64 0] 95 (0, 0))) := hN1
 have hw1 : w.heap.size < w1.heap.size := (Array.getElem?_eq_some_iff.1 hN1).1
 clear hF1 hB1 hK1 hN1 HSee HN HB0
 have h3i : ¬ (s.size : Int) < (at_ : Int) + 3 := by omega
 obtain ⟨top, htop⟩ : ∃ top, top = min 258 (s.size - at_) := ⟨_, rfl⟩
 have HTP : Hid (top = min 258 (s.size - at_)) := htop
 have ht1 : top ≤ 258 := by omega
 have ht2 : at_ + top ≤ s.size := by omega
 clear htop
 go_upto_region 5 with fail
 go_cut [5, 6] (fun v p wx => v = .int .i64 (top : Int) ∧ p = .pointer (some ⟨w1.heap.size, 0, none⟩) ∧ wx = w1.alloc (.cells #[.int .u8 0, .int .i64 0, .int .i64 0] 95))
 case first =>
  go_wp2
  all_goals (go_meet; exact ⟨congrArg _ (by have := HTP.out; omega), rfl, rfl⟩)
 case rest =>
  obtain ⟨rfl, rfl, rfl⟩ := hcut
  have hF2 := HF1.out.below ((Below.refl _ w1).alloc (Nat.le_refl _) (.cells #[.int .u8 0, .int .i64 0, .int .i64 0] 95))
  have HF2 : Hid (qak (w1.alloc (.cells #[.int .u8 0, .int .i64 0, .int .i64 0] 95)) B gf gm s tr at_) := hF2
  have HB2 : Hid (Below B w (w1.alloc (.cells #[.int .u8 0, .int .i64 0, .int .i64 0] 95))) := HB1.out.alloc (by have := HB1.out.size; omega) _
  have HK2 : Hid (qb9 w (w1.alloc (.cells #[.int .u8 0, .int .i64 0, .int .i64 0] 95))) := HK1.out.trans (qdd _ _)
  have HN2 : Hid ((w1.alloc (.cells #[.int .u8 0, .int .i64 0, .int .i64 0] 95)).heap[w.heap.size]? = some (.cells #[.int .u8 0, .int .i64 0, .int .i64 0] 95 (0, 0))) := (qdd _ _).2 _ _ _ HN1.out
  have HM2 : Hid ((w1.alloc (.cells #[.int .u8 0, .int .i64 0, .int .i64 0] 95)).heap[w1.heap.size]? = some (.cells #[.int .u8 0, .int .i64 0, .int .i64 0] 95 (0, 0))) := heap_alloc_new w1 _
  obtain ⟨d0, d1, d2⟩ := hF2.cells
  have hrun := qzu hF2 h3 hs
  clear c0 c1 c2 HF1 HB1 HK1 HN1 hF2
  generalize World.alloc w1 _ = W2 at *
  generalize w1.heap.size = gb at *
  have a0 : (0 : Int) ≤ (at_ : Int) := by omega
  have a1 : (at_ : Int) ≤ (at_ : Int) + 3 := by omega
  have a2 : (at_ : Int) + 3 ≤ (s.size : Int) := by omega
  have hrun0 := hrun 0
  rw [World.drewN_zero] at hrun0
  go_wp2
  go_quiet (fail)
  have HLA : Hid (qeb w (W2.drewN nq) B gf gm gb s tr at_ qct) := qeb.drewN ⟨HM2.out, HN2.out, HF2.out, HB2.out, HK2.out⟩ nq
  have HCH : Hid (qes s tr at_ (min 258 (s.size - at_)) 0 (qda s at_) qct) := qpu h3
  clear HF2 HB2 HK2 HN2 HM2 hrun hrun0 d0 d1 d2
  generalize W2.drewN nq = W3 at *
  generalize qda s at_ = pl0 at *
  go_wp2
  go_loopw [7, 8] (fun pl tt wr => ∃ (j place : Nat) (best : Tok), pl = .int .i64 (place : Int) ∧ tt = .int .i64 (j : Int) ∧ j ≤ tr ∧ qes s tr at_ (min 258 (s.size - at_)) j place best ∧ qeb w wr B gf gm gb s tr at_ best) (fun _ tt _ => tr - (intOf tt).toNat)
  case atStart => exact ⟨0, pl0, qct, rfl, rfl, by omega, HCH.out, HLA.out⟩
  case round =>
   clear HLA HCH
   obtain ⟨j, place, best, rfl, rfl, hj, hC, hL⟩ := hrel
   obtain ⟨b0, b1, b2, g0, g1, g2⟩ := qaf hL.1
   obtain ⟨r0, r1, r2, f0, f1, f2⟩ := qaf hL.2.1
   obtain ⟨c0, c1, c2⟩ := hL.2.2.1.cells
   have HC : Hid (qes s tr at_ (min 258 (s.size - at_)) j place best) := hC
   have HL : Hid (qeb w wr B gf gm gb s tr at_ best) := hL
   have hgd := hC.2.2.nonneg
   have hpo := hC.2.1
   have HOUT : Hid (qak (put3 wr w.heap.size best) B gf gm s tr at_ ∧ Below B w (put3 wr w.heap.size best) ∧ qb9 w (put3 wr w.heap.size best)) := qpe hL.2.2.1 hL.2.1 hL.2.2.2.1 hL.2.2.2.2 hB best
   clear hC hL
   obtain ⟨bb, bl, bd⟩ := best
   simp only at b0 b1 b2 hgd
   by_cases hend : place = 0 ∨ tr ≤ j ∨ (top : Int) ≤ bl
   · have HEN : Hid (qbw s tr at_ = ⟨bb, bl, bd⟩) := qn2 HC.out (by
       rw [← HTP.out]
       rcases hend with h | h | h
       · exact .inl h
       · exact .inr (.inl h)
       · exact .inr (.inr (.inl h)))
     clear hpo HC HL
     by_cases p0 : place = 0
     · subst p0
       clear hend
       go_wp2
       exact bodyPost_ret (v := .agg #[.int .u8 (bb : Int), .int .i64 bl, .int .i64 bd]) (by simp [results, Tryz.results44, go_sem, *]) rfl ⟨by rw [HEN.out]; rfl, HOUT.out.1, HOUT.out.2.1, HOUT.out.2.2⟩
     · have p0i : (0 : Int) < (place : Int) := by omega
       by_cases p1 : tr ≤ j
       · have p1i : ¬ (j : Int) < (tr : Int) := by omega
         clear hend
         go_wp2
         exact bodyPost_ret (v := .agg #[.int .u8 (bb : Int), .int .i64 bl, .int .i64 bd]) (by simp [results, Tryz.results44, go_sem, *]) rfl ⟨by rw [HEN.out]; rfl, HOUT.out.1, HOUT.out.2.1, HOUT.out.2.2⟩
       · have p1i : (j : Int) < (tr : Int) := by omega
         have p2i : ¬ bl < (top : Int) := by omega
         clear hend
         go_wp2
         exact bodyPost_ret (v := .agg #[.int .u8 (bb : Int), .int .i64 bl, .int .i64 bd]) (by simp [results, Tryz.results44, go_sem, *]) rfl ⟨by rw [HEN.out]; rfl, HOUT.out.1, HOUT.out.2.1, HOUT.out.2.2⟩
   · have e1 : 0 < place := by omega
     have e2 : j < tr := by omega
     have e3 : bl < (top : Int) := by omega
     obtain ⟨p, rfl⟩ : ∃ p, place = p + 1 := ⟨place - 1, by omega⟩
     have hpa : p < at_ := by rcases hpo with h | h <;> omega
     clear hend hpo
     have q0 : (0 : Int) < ((p + 1 : Nat) : Int) := by omega
     have q1 : (j : Int) < (tr : Int) := by omega
     have q3 : ((p + 1 : Nat) : Int) - 1 = (p : Int) := by omega
     have q4 : (at_ : Int) - (p : Int) = ((at_ - p : Nat) : Int) := by omega
     have q5 : (at_ : Int) - ((at_ - p : Nat) : Int) = (p : Int) := by omega
     by_cases hwn : 32768 < at_ - p
     · have HEN : Hid (qbw s tr at_ = ⟨bb, bl, bd⟩) := qn2 HC.out (.inr (.inr (.inr (by simpa using hwn))))
       have q6 : (32768 : Int) < ((at_ - p : Nat) : Int) := by omega
       clear HC HL
       generalize at_ - p = dist at *
       go_wp2
       exact bodyPost_ret (v := .agg #[.int .u8 (bb : Int), .int .i64 bl, .int .i64 bd]) (by simp [results, Tryz.results44, go_sem, *]) rfl ⟨by rw [HEN.out]; rfl, HOUT.out.1, HOUT.out.2.1, HOUT.out.2.2⟩
     · have hcn := qt3 HC.out h3 (by omega) e2 (by rw [← HTP.out]; exact e3) (by simp only [Nat.add_sub_cancel]; omega)
       rw [← HTP.out] at hcn
       simp only [Nat.add_sub_cancel] at hcn
       have hal := qjk s top p at_
       have HAL : Hid (Calls _ _ _ _ _) := qxo gf s p at_ top wr c0 (by omega) ht2 hs
       have q6 : ¬ (32768 : Int) < ((at_ - p : Nat) : Int) := by omega
       clear HOUT
       generalize hAA : qbz s p at_ top = AA at *
       have HCN : Hid (qes s tr at_ top (j + 1) (qda s p) (if bl < (AA : Int) then ⟨0, (AA : Int), ((at_ - p : Nat) : Int)⟩ else ⟨bb, bl, bd⟩)) := hcn
       clear hcn hAA
       have hdb : at_ - p ≤ 32768 := by omega
       generalize hdd : at_ - p = dist at *
       clear hdd
       go_wp2_with fail
       refine (Hid.out HAL : Calls _ _ _ _ _).mono ?_
       rintro e w5 ⟨rfl, m5, rfl⟩
       clear HAL
       by_cases hbt : bl < (AA : Int)
       · have HL6 : Hid (qeb w (put3 (wr.drewN m5) gb ⟨0, (AA : Int), (dist : Int)⟩) B gf gm gb s tr at_ ⟨0, (AA : Int), (dist : Int)⟩) := (HL.out.drewN m5).put hw1 hB _
         obtain ⟨g, cap, k1, k2⟩ := qi7 HL6.out.2.2.1 hpa
         have p0 : (0 : Int) ≤ (p : Int) := by omega
         have p1 : (p : Int) < (at_ : Int) := by omega
         unfold put3 at k1 k2
         simp only [show ((0 : Nat) : Int) = 0 from rfl] at k1 k2
         rw [if_pos hbt] at HCN
         clear HL HC
         go_wp2
         go_roundw
         case rel => exact ⟨j + 1, qda s p, _, rfl, by go_num, by omega, by rw [← HTP.out]; exact HCN.out, HL6.out⟩
         case measure => simp [intOf]; omega
       · obtain ⟨g, cap, k1, k2⟩ := qi7 HL.out.2.2.1 hpa
         have p0 : (0 : Int) ≤ (p : Int) := by omega
         have p1 : (p : Int) < (at_ : Int) := by omega
         have HL6 : Hid (qeb w (wr.drewN m5) B gf gm gb s tr at_ ⟨bb, bl, bd⟩) := HL.out.drewN m5
         rw [if_neg hbt] at HCN
         clear HL HC
         go_wp2
         go_roundw
         case rel => exact ⟨j + 1, qda s p, _, rfl, by go_num, by omega, by rw [← HTP.out]; exact HCN.out, HL6.out⟩
         case measure => simp [intOf]; omega
attribute [local go_sem ↓] Go.wp_at_zero Go.wp_at_succ
set_option linter.unusedVariables false
theorem qiy (B gf gm : Nat) (s : ByteArray) (tr n at_ : Nat) (w : World) (hF : qak w B gf gm s tr n) (hs : s.size ≤ 100000000) (hn : n ≤ at_) (ha : at_ ≤ s.size) (htr : tr ≤ 1000000) (hB : B ≤ w.heap.size) :
    Calls Tryz.prog 44 #[.pointer (some ⟨gf, 0, none⟩), .int .i64 (at_ : Int)] w fun e w' => e = .returned (tv (qbw s tr at_)) ∧ (∃ n', n' ≤ at_ ∧ qak w' B gf gm s tr n') ∧ Below B w w' ∧ qb9 w w' := by
 by_cases h3 : at_ + 3 ≤ s.size
 · refine (qni B gf gm s tr n at_ w hF hs hn htr hB h3).mono ?_
   rintro e w' ⟨h1, h2, h4⟩
   exact ⟨h1, ⟨at_, Nat.le_refl _, h2⟩, h4⟩
 · refine (qlr B gf gm s tr n at_ w hF hs ha (by omega) hB (by omega)).mono ?_
   rintro e w' ⟨h1, h2, h4⟩
   exact ⟨h1, ⟨_, by unfold qg5; split <;> omega, h2⟩, h4⟩
theorem Tryz.infoT : (Tryz.prog.info? 95).map (fun i => (i.zero, i.size, i.bytes)) = some (some (.agg #[.int .u8 0, .int .i64 0, .int .i64 0]), 3, 24) := by kernel_rfl
theorem qvw {w w' : World} {B n : Nat} {v : Value} {xs : List Value} (h : w.ownsRow B 95 3 v n xs) (hk : qb9 w w') : w'.ownsRow B 95 3 v n xs := by
 refine ⟨h.1, ?_⟩
 rcases h.2 with h | ⟨g, cap, cur, h1, h2, h3, h4⟩
 · exact .inl h
 · exact .inr ⟨g, cap, cur, h1, h2, hk.2 _ _ _ h3, h4⟩
theorem qak.grown {w w' : World} {B gf gm n k : Nat} {s : ByteArray} {tr : Nat} {v : Value} {xs : List Value} (h : qak w B gf gm s tr n) (hO : w.ownsRow B 95 3 v k xs) (hg : w.grownBy w' v.ownBlock) : qak w' B gf gm s tr n := by
 obtain ⟨h1, h2, bv, D, h3, h4, h5, h6⟩ := h
 refine ⟨h1, h2, bv, D, qa3 hg h3 (qcd hO h3 (by decide)), h4.kept hg (qwa hO h4), h5, h6.kept hg ?_⟩
 rcases hO.2 with ⟨rfl, _⟩ | ⟨g, cap, cur, rfl, _, hh, _⟩
 · cases hv : bv.ownBlock with
   | none => exact .inl rfl
   | some j => exact .inr (by simp [Value.ownBlock])
 · exact .inr (fun e => qcd h6 hh (by decide) e.symm)
theorem qfu (w : World) (t : Tok) : ∀ j u, [Value.int .u8 (t.b : Int), .int .i64 t.l, .int .i64 t.d][j]? = some u → (w.alloc (.cells #[.int .u8 (t.b : Int), .int .i64 t.l, .int .i64 t.d] 95)).cell? ((⟨w.heap.size, 0, none⟩ : Addr).add j) = some u :=
 World.news_of_block (heap_alloc_new w _)
theorem qpw (s : ByteArray) (w : World) (hs : s.size ≤ 100000000) :
    Calls Tryz.prog 20 #[.string s] w fun e w' => ∃ v, e = .returned v ∧ w'.ownsRow w.heap.size 95 3 v (tok0 s).length (tcs (tok0 s)) ∧ Below w.heap.size w w' := by
 obtain ⟨i0, hi, hz0, hz1, hz2⟩ := info_parts Tryz.infoT
 go_enter Tryz.func20, Tryz.ntmps20
 go_wp2_with (at_make; refine wpList_make_own _ rfl _ _ 33 rfl w.heap.size 95 i0 (.agg #[.int .u8 0, .int .i64 0, .int .i64 0]) 3 Tryz.underlying33 hi hz0 hz1 .i64 .i64 _ s.size rfl rfl (by omega) (by rw [hz2]; omega) (by unfold maxLen; omega) (Nat.le_refl _) ?_; intro w1 hown hgrow)
 have hst : Below w.heap.size w w1 := (Below.refl _ w).grown hgrow (Nat.le_refl _) (fun k hk => by cases hk)
 clear hgrow
 go_loopw [3, 10] (fun v i wr => ∃ k : Nat, k ≤ s.size ∧ i = .int .i64 (k : Int) ∧ wr.ownsRow w.heap.size 95 3 v k (tcs ((tok0 s).take k)) ∧ Below w.heap.size w wr) (fun _ i _ => s.size - (intOf i).toNat)
 case atStart => exact ⟨0, by omega, rfl, hown, hst⟩
 case round =>
  clear hst hown
  obtain ⟨k, hk, rfl, hO, hB⟩ := hrel
  by_cases hlt : k < s.size
  · have HTK : Hid ((tok0 s).take (k + 1) = (tok0 s).take k ++ [⟨byt s k, 0, 0⟩]) := qh7 s k hlt
    have hbe := qn3 s k hlt
    have h3n := qfu wr ⟨byt s k, 0, 0⟩
    simp only at h3n
    have HN3 : Hid _ := h3n
    clear h3n
    have hki : (k : Int) < (s.size : Int) := by omega
    have hki0 : (0 : Int) ≤ (k : Int) := by omega
    have hsz := hB.size
    go_wp2_with (at_builtin; refine wpList_append_own _ rfl _ _ 33 rfl w.heap.size 95 i0 (.agg #[.int .u8 0, .int .i64 0, .int .i64 0]) 3 24 Tryz.underlying33 hi hz0 hz1 hz2 rfl (by decide) _ _ _ rfl (hO.alloc _) ⟨wr.heap.size, 0, none⟩ 1 1 [.int .u8 (byt s k : Int), .int .i64 0, .int .i64 0] rfl rfl HN3.out ?c2 ?c3 ?c4 ?c5 ?_)
    case c2 => intro y hy; simp at hy; rcases hy with rfl | rfl <;> rfl
    case c3 => unfold maxLen; omega
    case c4 => omega
    case c5 => rw [World.size_alloc]; omega
    intro v8 w8 hown hg _
    have HO8 : Hid (w8.ownsRow w.heap.size 95 3 v8 (k + 1) (tcs ((tok0 s).take (k + 1)))) := by unfold Hid; rw [HTK.out, qdx]; exact hown
    have HB8 : Hid (Below w.heap.size w w8) := (hB.alloc hsz _).grown hg (by rw [World.size_alloc]; omega) (fun q hq => (hO.lt q hq).1)
    clear hown hg hO hB
    go_wp2
    go_roundw
    case rel => exact ⟨k + 1, by omega, by go_num, HO8.out, HB8.out⟩
    case measure => simp [intOf]; omega
  · obtain rfl : k = s.size := by omega
    rw [List.take_of_length_le (by rw [qcx]; exact Nat.le_refl _)] at hO
    go_wp2
    go_ret
    exact ⟨_, rfl, by rw [qcx]; exact hO, hB⟩
theorem qia (b l d : Int) : ∀ u ∈ [Value.int .u8 b, .int .i64 l, .int .i64 d], u.oneCell' = true := by
 intro u hu
 simp only [List.mem_cons, List.not_mem_nil, or_false] at hu
 rcases hu with rfl | rfl | rfl <;> rfl
theorem qwq (b l d : Int) (W : World) : (Instr.field 95 (.agg #[.int .u8 b, .int .i64 l, .int .i64 d]) 1).run Tryz.prog W = .ok (.int .i64 l) W := by kernel_rfl
def qck (w wr : World) (B gf gm : Nat) (s : ByteArray) (tr n : Nat) (o : Value) (acc : List Tok) : Prop := wr.ownsRow B 95 3 o acc.length (tcs acc) ∧ qak wr B gf gm s tr n ∧ Below B w wr
theorem qck.step {w wr w' : World} {B gf gm : Nat} {s : ByteArray} {tr n n' : Nat} {o : Value} {acc : List Tok} (h : qck w wr B gf gm s tr n o acc) (hF : qak w' B gf gm s tr n') (hB : Below B wr w') (hK : qb9 wr w') : qck w w' B gf gm s tr n' o acc :=
 ⟨qvw h.1 hK, hF, h.2.2.trans hB⟩
theorem qck.alloc {w wr : World} {B gf gm : Nat} {s : ByteArray} {tr n : Nat} {o : Value} {acc : List Tok} (h : qck w wr B gf gm s tr n o acc) (hB : B ≤ wr.heap.size) (x : Obj) : qck w (wr.alloc x) B gf gm s tr n o acc :=
 ⟨h.1.alloc x, h.2.1.below ((Below.refl _ wr).alloc (Nat.le_refl _) x), h.2.2.alloc hB x⟩
theorem qck.put {w wr w' : World} {B gf gm gt : Nat} {s : ByteArray} {tr n : Nat} {o : Value} {acc : List Tok} {c : Array Value} (h : qck w wr B gf gm s tr n o acc) (hb : wr.heap[gt]? = some (.cells c 95 (0, 0))) (hne : o.ownBlock ≠ some gt) (hBg : B ≤ gt) (hg : wr.grownBy w' (some gt)) : qck w w' B gf gm s tr n o acc :=
 ⟨h.1.kept hg (.inr hne), h.2.1.setTok hb hg, h.2.2.grown hg (Nat.le_trans hBg (Nat.le_of_lt (Array.getElem?_eq_some_iff.1 hb).1)) (fun j hj => by cases hj; exact hBg)⟩
theorem qck.app {w wr w' : World} {B gf gm : Nat} {s : ByteArray} {tr n : Nat} {o o' : Value} {acc acc' : List Tok} {x : Obj} (h : qck w wr B gf gm s tr n o acc) (hB : B ≤ wr.heap.size) (hg : (wr.alloc x).grownBy w' o.ownBlock) (hO : w'.ownsRow B 95 3 o' acc'.length (tcs acc')) : qck w w' B gf gm s tr n o' acc' :=
 ⟨hO, (h.alloc hB x).2.1.grown (h.1.alloc x) hg, (h.2.2.alloc hB x).grown hg (by rw [World.size_alloc]; omega) (fun j hj => (h.1.lt j hj).1)⟩
theorem qck.drewN {w wr : World} {B gf gm : Nat} {s : ByteArray} {tr n : Nat} {o : Value} {acc : List Tok} (h : qck w wr B gf gm s tr n o acc) (m : Nat) : qck w (wr.drewN m) B gf gm s tr n o acc := ⟨h.1, h.2.1, below_drewN h.2.2 m⟩
def qnk (s : ByteArray) (lv at_ : Nat) : Bool := decide (0 < (qbw s (2 ^ lv) at_).l ∧ (qbw s (2 ^ lv) at_).l < 4 * (lv : Int) ∧ (qbw s (2 ^ lv) at_).l < (qbw s (2 ^ lv) (at_ + 1)).l)
theorem qsy {s : ByteArray} {lv at_ : Nat} (h : qnk s lv at_ = true ∨ (qbw s (2 ^ lv) at_).l = 0) : qcz s lv at_ = ⟨byt s at_, 0, 0⟩ := by
 unfold qcz
 rw [if_neg (fun hh => by
  rcases h with h | h
  · unfold qnk at h; rw [decide_eq_true_eq] at h; exact hh.2 ⟨h.2.1, h.2.2⟩
  · omega)]
theorem qux {s : ByteArray} {lv at_ : Nat} (h : qnk s lv at_ = false) (h0 : ¬ (qbw s (2 ^ lv) at_).l = 0) : qcz s lv at_ = qbw s (2 ^ lv) at_ := by
 have hn := (qe5 s (2 ^ lv) at_).nonneg
 unfold qcz
 unfold qnk at h
 rw [decide_eq_false_iff_not] at h
 rw [if_pos ⟨by omega, fun hh => h ⟨by omega, hh.1, hh.2⟩⟩]
theorem qm3 {w : World} {b : Nat} {x y z : Value} {ty : TypeId} (h : w.heap[b]? = some (.cells #[x, y, z] ty (0, 0))) (u : Value) : (w.setCell ⟨b, 0, none⟩ u).heap[b]? = some (.cells #[u, y, z] ty (0, 0)) := by
 rw [heap_setCell_same _ _ _ _ _ _ h]; rfl
theorem qoz (s : ByteArray) (lv : Nat) (w : World) (hs : s.size ≤ 100000000) (hl1 : 1 ≤ lv) (hl9 : lv ≤ 9) :
    Calls Tryz.prog 21 #[.string s, .int .i64 (lv : Int)] w fun e w' => ∃ v, e = .returned v ∧ w'.ownsRow w.heap.size 95 3 v (tokK s lv s.size).1.length (tcs (tokK s lv s.size).1) ∧ Below w.heap.size w w' := by
 obtain ⟨i0, hi, hz0, hz1, hz2⟩ := info_parts Tryz.infoT
 have hmm := @run_makeMap Tryz.prog
 have h512 : 2 ^ lv ≤ 2 ^ 9 := Nat.pow_le_pow_right (by decide) hl9
 have hlz : ¬ (lv : Int) < 0 := by omega
 have HF0 : Hid (qak ((w.alloc (.map #[] 0)).alloc (.cells #[.string s, .int .i64 ((2 ^ lv : Nat) : Int), .map (some w.heap.size), .slice none 0 0] 115)) w.heap.size (w.heap.size + 1) w.heap.size s (2 ^ lv) 0) := by
  refine ⟨by omega, Nat.le_refl _, .slice none 0 0, .map [], ?_, (World.ownsMap_made w _ _ _).alloc _, qs8 s, World.ownsRow_nil _ _ _ _⟩
  have := heap_alloc_new (w.alloc (.map #[] 0)) (.cells #[.string s, .int .i64 ((2 ^ lv : Nat) : Int), .map (some w.heap.size), .slice none 0 0] 115)
  rw [World.size_alloc] at this; exact this
 have HB0 : Hid (Below w.heap.size w ((w.alloc (.map #[] 0)).alloc (.cells #[.string s, .int .i64 ((2 ^ lv : Nat) : Int), .map (some w.heap.size), .slice none 0 0] 115))) := ((Below.refl _ w).alloc (Nat.le_refl _) _).alloc (by rw [World.size_alloc]; omega) _
 go_enter Tryz.func21, Tryz.ntmps21
 go_upto_region 1 with fail
 go_cut [5] (fun p wx => p = .pointer (some ⟨w.heap.size + 1, 0, none⟩) ∧ wx = (w.alloc (.map #[] 0)).alloc (.cells #[.string s, .int .i64 ((2 ^ lv : Nat) : Int), .map (some w.heap.size), .slice none 0 0] 115))
 case first =>
  rcases (show lv = 1 ∨ lv = 2 ∨ lv = 3 ∨ lv = 4 ∨ lv = 5 ∨ lv = 6 ∨ lv = 7 ∨ lv = 8 ∨ lv = 9 by omega) with rfl | rfl | rfl | rfl | rfl | rfl | rfl | rfl | rfl
  all_goals
   clear HF0 HB0
   go_wp2
   go_meet
   exact ⟨rfl, rfl⟩
 case rest =>
  obtain ⟨rfl, rfl⟩ := hcut
  clear hmm
  generalize World.alloc (World.alloc w _) _ = W1 at *
  go_wp2
  go_loopw [6, 7] (fun o a wr => ∃ (k n : Nat), a = .int .i64 ((tokK s lv k).2 : Int) ∧ n ≤ (tokK s lv k).2 ∧ qck w wr w.heap.size (w.heap.size + 1) w.heap.size s (2 ^ lv) n o (tokK s lv k).1) (fun _ a _ => s.size - (intOf a).toNat)
  case atStart => exact ⟨0, 0, rfl, Nat.zero_le _, World.ownsRow_nil _ _ _ _, HF0.out, HB0.out⟩
  case round =>
   clear HF0 HB0
   obtain ⟨k, n, rfl, hn, hR⟩ := hrel
   have hfar := qfs s lv k
   by_cases hlt : (tokK s lv k).2 < s.size
   · have HST : Hid (tokK s lv (k + 1) = ((tokK s lv k).1 ++ [qcz s lv (tokK s lv k).2], (tokK s lv k).2 + (wid (qcz s lv (tokK s lv k).2)).toNat)) := qh4 hlt
     have HOK : Hid (_ ∧ _) := qk3 s lv _ hlt
     generalize (tokK s lv k).2 = p at *
     generalize (tokK s lv k).1 = acc at *
     have hpi : (p : Int) < (s.size : Int) := by omega
     have hp0 : (0 : Int) ≤ (p : Int) := by omega
     have hsz := hR.2.2.size
     have hacc : acc.length ≤ p := hfar.2.2
     have HLG : Hid (Calls _ _ _ _ _) := qiy w.heap.size (w.heap.size + 1) w.heap.size s (2 ^ lv) n p wr hR.2.1 hs hn (by omega) (by omega) hsz
     have HR : Hid (qck w wr w.heap.size (w.heap.size + 1) w.heap.size s (2 ^ lv) n _ acc) := hR
     have hgn := (qe5 s (2 ^ lv) p).nonneg
     have hgz : (qbw s (2 ^ lv) p).l = 0 → qbw s (2 ^ lv) p = qct := fun h => by
      rcases qe5 s (2 ^ lv) p with h1 | h1
      · exact h1
      · omega
     have HGZ : Hid _ := hgz
     clear hR hfar hgz
     go_wp2_with fail
     refine (Hid.out HLG : Calls _ _ _ _ _).mono ?_
     rintro e w1 ⟨rfl, ⟨n1, hn1, hF1⟩, hB1, hK1⟩
     have hR1 := HR.out.step hF1 hB1 hK1
     have HSB : Hid (qnk s lv p = true ∨ (qbw s (2 ^ lv) p).l = 0 → qcz s lv p = ⟨byt s p, 0, 0⟩) := qsy
     have HSR : Hid (qnk s lv p = false → ¬ (qbw s (2 ^ lv) p).l = 0 → qcz s lv p = qbw s (2 ^ lv) p) := qux
     have HLZ : Hid (qnk s lv p = decide (0 < (qbw s (2 ^ lv) p).l ∧ (qbw s (2 ^ lv) p).l < 4 * (lv : Int) ∧ (qbw s (2 ^ lv) p).l < (qbw s (2 ^ lv) (p + 1)).l)) := rfl
     have HLG2 : Hid (∀ W, qak W w.heap.size (w.heap.size + 1) w.heap.size s (2 ^ lv) n1 → w.heap.size ≤ W.heap.size → Calls Tryz.prog 44 #[.pointer (some ⟨w.heap.size + 1, 0, none⟩), .int .i64 ((p : Int) + 1)] W.drew fun e w' => e = .returned (tv (qbw s (2 ^ lv) (p + 1))) ∧ (∃ n', n' ≤ p + 1 ∧ qak w' w.heap.size (w.heap.size + 1) w.heap.size s (2 ^ lv) n') ∧ Below w.heap.size W w' ∧ qb9 W w') := fun W h hz => (qiy w.heap.size (w.heap.size + 1) w.heap.size s (2 ^ lv) n1 (p + 1) W.drew h hs (by omega) (by omega) (by omega) hz).mono (fun e w' h => ⟨h.1, h.2.1, (Below.refl _ W).drew.trans h.2.2.1, h.2.2.2⟩)
     rw [qoi]
     have hbe := qn3 s p hlt
     generalize qbw s (2 ^ lv) p = T at *
     generalize qbw s (2 ^ lv) (p + 1) = T2 at *
     generalize qnk s lv p = LZ at *
     obtain ⟨tb, tl, td⟩ := T
     obtain ⟨ub, ul, ud⟩ := T2
     simp only at HSB HSR HLZ hgn HGZ
     rw [qoi] at HLG2
     simp only at HLG2
     have hsz1 : w.heap.size ≤ w1.heap.size := hR1.2.2.size
     have HNE : Hid (_ ≠ some w1.heap.size) := fun e => by have := (hR1.1.lt _ e).2; omega
     have HR2 : Hid (qck w (w1.alloc (.cells #[.int .u8 (tb : Int), .int .i64 tl, .int .i64 td] 95)) w.heap.size (w.heap.size + 1) w.heap.size s (2 ^ lv) n1 _ acc) := hR1.alloc hsz1 _
     have HG2 : Hid ((w1.alloc (.cells #[.int .u8 (tb : Int), .int .i64 tl, .int .i64 td] 95)).heap[w1.heap.size]? = some (.cells #[.int .u8 (tb : Int), .int .i64 tl, .int .i64 td] 95 (0, 0))) := heap_alloc_new w1 _
     clear HLG HR hF1 hB1 hK1 hR1
     go_upto_region 6 with fail
     go_cut [41] (fun c wx => c = .bool LZ ∧ wx.heap[w1.heap.size]? = some (.cells #[.int .u8 (tb : Int), .int .i64 tl, .int .i64 td] 95 (0, 0)) ∧ ∃ n2, n2 ≤ p + 1 ∧ qck w wx w.heap.size (w.heap.size + 1) w.heap.size s (2 ^ lv) n2 u6 acc)
     case first =>
      have c1 : (w1.alloc (.cells #[.int .u8 (tb : Int), .int .i64 tl, .int .i64 td] 95)).cell? ⟨w1.heap.size, 1, none⟩ = some (.int .i64 tl) := (qaf HG2.out).2.1
      by_cases h1 : 0 < tl
      · have d1 : decide (0 < tl) = true := by simpa using h1
        by_cases h2 : tl < 4 * (lv : Int)
        · have d2 : decide (tl < 4 * (lv : Int)) = true := by simpa using h2
          have hw4 : IntKind.i64.wrap (4 * (lv : Int)) = 4 * (lv : Int) := by simp [IntKind.wrap, IntKind.bits, IntKind.signed]; omega
          have hw5 : IntKind.i64.wrap ((p : Int) + 1) = (p : Int) + 1 := by simp [IntKind.wrap, IntKind.bits, IntKind.signed]; omega
          have hl4 : tl < 4 * (lv : Int) := h2
          have hfld := qwq ub ul ud
          have hLZ : LZ = decide (tl < ul) := by rw [HLZ.out, Bool.eq_iff_iff, decide_eq_true_eq, decide_eq_true_eq]; exact ⟨fun h => h.2.2, fun h => ⟨h1, h2, h⟩⟩
          generalize World.alloc w1 _ = W2 at *
          go_region_held (fun w' => w'.cell? ⟨w1.heap.size, 1, none⟩ = some (.int .i64 tl)) (first | exact c1 | assumption)
           (first | (go_at_call 44; refine (HLG2.out _ HR2.out.2.1 HR2.out.2.2.size).mono ?_; rintro e w7 ⟨rfl, ⟨n7, hn7, hF7⟩, hB7, hK7⟩; have hs7 : w7.cell? ⟨w1.heap.size, 1, none⟩ = some (.int .i64 tl) := (qaf (hK7.2 _ _ _ HG2.out)).2.1))
          go_wp2
          go_meet
          exact ⟨by rw [hLZ], hK7.2 _ _ _ HG2.out, n7, hn7, HR2.out.step hF7 hB7 hK7⟩
        · have d2 : decide (tl < 4 * (lv : Int)) = false := by simpa using h2
          have hl0 : LZ = false := by rw [HLZ.out]; exact decide_eq_false (fun h => h2 h.2.1)
          generalize World.alloc w1 _ = W2 at *
          go_quiet (fail)
          go_wp2
          go_meet
          exact ⟨by rw [hl0], HG2.out, n1, by omega, HR2.out.drewN _⟩
      · have d1 : decide (0 < tl) = false := by simpa using h1
        have hl0 : LZ = false := by rw [HLZ.out]; exact decide_eq_false (fun h => h1 h.1)
        generalize World.alloc w1 _ = W2 at *
        go_quiet (fail)
        go_wp2
        go_meet
        exact ⟨by rw [hl0], HG2.out, n1, by omega, HR2.out.drewN _⟩
     case rest =>
      obtain ⟨rfl, hG3, n2, hn2, hR3⟩ := hcut
      clear HR2 HG2 HLG2
      obtain ⟨x0, x1, x2, f0, f1, f2⟩ := qaf hG3
      have hBg : w.heap.size ≤ w1.heap.size := hsz1
      cases hL : LZ
      · rw [hL] at HSB HSR
        by_cases ht0 : tl = 0
        · have hTz := HGZ.out ht0
          simp only [qct, Tok.mk.injEq] at hTz
          obtain ⟨rfl, _, rfl⟩ := hTz
          subst ht0
          have HSE : Hid (qcz s lv p = ⟨byt s p, 0, 0⟩) := HSB.out (.inr rfl)
          have HGT : Hid ((wc.setCell ⟨w1.heap.size, 0, none⟩ (.int .u8 (byt s p : Int))).heap[w1.heap.size]? = some (.cells #[.int .u8 (byt s p : Int), .int .i64 0, .int .i64 0] 95 (0, 0))) := qm3 hG3 _
          have HRT : Hid (qck w (wc.setCell ⟨w1.heap.size, 0, none⟩ (.int .u8 (byt s p : Int))) w.heap.size (w.heap.size + 1) w.heap.size s (2 ^ lv) n2 u6 acc) := hR3.put hG3 HNE.out hBg (qa5 _ ⟨w1.heap.size, 0, none⟩ _)
          clear hR3 hG3 HSB HSR HLZ HGZ
          go_upto_region 10 with fail
          generalize World.setCell wc _ _ = W at *
          clear x0 x1 x2 f0 f1 f2
          obtain ⟨y0, y1, y2, _, _, _⟩ := qaf HGT.out
          have h3n := qfu W ⟨byt s p, 0, 0⟩
          simp only at h3n
          have HN3 : Hid (∀ (j : Nat) (u : Value), [Value.int .u8 ((byt s p : Nat) : Int), .int .i64 0, .int .i64 0][j]? = some u → (W.alloc (.cells #[.int .u8 ((byt s p : Nat) : Int), .int .i64 0, .int .i64 0] 95)).cell? ((⟨W.heap.size, 0, none⟩ : Addr).add j) = some u) := h3n
          have HWD : Hid (∀ W', Calls Tryz.prog 45 #[.agg #[.int .u8 ((byt s p : Nat) : Int), .int .i64 0, .int .i64 0]] W' fun e w' => e = .returned (.int .i64 (wid ⟨byt s p, 0, 0⟩)) ∧ Below W'.heap.size W' w') := fun W' => qfq ⟨byt s p, 0, 0⟩ W'
          clear h3n
          have HONE : Hid (∀ u ∈ [Value.int .u8 ((byt s p : Nat) : Int), .int .i64 0, .int .i64 0], u.oneCell' = true) := qia _ _ _
          have hszW : w.heap.size ≤ W.heap.size := HRT.out.2.2.size
          have hgtW : w1.heap.size < W.heap.size := (Array.getElem?_eq_some_iff.1 HGT.out).1
          have hwp := qed ⟨byt s p, 0, 0⟩
          have HWS : Hid ((p : Int) + wid ⟨byt s p, 0, 0⟩ ≤ s.size) := by unfold Hid; rw [← HSE.out]; exact HOK.out.2.2.1
          have hws := HWS.out
          generalize hwt : wid ⟨byt s p, 0, 0⟩ = wt at *
          go_wp2_with (at_builtin; refine wpList_append_own _ rfl _ _ 33 rfl w.heap.size 95 i0 (.agg #[.int .u8 0, .int .i64 0, .int .i64 0]) 3 24 Tryz.underlying33 hi hz0 hz1 hz2 rfl (by decide) _ _ _ rfl (HRT.out.1.alloc _) ⟨W.heap.size, 0, none⟩ 1 1 [.int .u8 ((byt s p : Nat) : Int), .int .i64 0, .int .i64 0] rfl rfl HN3.out HONE.out (by unfold maxLen; omega) (by omega) (by simp; omega) ?_)
          intro v8 w8 hown8 hg8 _
          have hO8 : w8.ownsRow w.heap.size 95 3 v8 (acc ++ [(⟨byt s p, 0, 0⟩ : Tok)]).length (tcs (acc ++ [(⟨byt s p, 0, 0⟩ : Tok)])) := by rw [qdx, List.length_append]; exact hown8
          have HR8 : Hid (qck w w8 w.heap.size (w.heap.size + 1) w.heap.size s (2 ^ lv) n2 v8 (acc ++ [(⟨byt s p, 0, 0⟩ : Tok)])) := HRT.out.app hszW hg8 hO8
          have hG8 := qa3 hg8 ((heap_alloc_old _ _ hgtW).trans HGT.out) (fun e => HNE.out e.symm)
          obtain ⟨z0, z1, z2, _, _, _⟩ := qaf hG8
          clear hown8 hg8 hO8 hG8 y0 y1 y2 HN3 HGT HRT
          go_wp2_with fail
          refine (HWD.out _).mono ?_
          rintro e w9 ⟨rfl, hb9⟩
          have HR9 : Hid (qck w w9 w.heap.size (w.heap.size + 1) w.heap.size s (2 ^ lv) n2 v8 (acc ++ [(⟨byt s p, 0, 0⟩ : Tok)])) := HR8.out.step (HR8.out.2.1.below hb9) (hb9.mono HR8.out.2.2.size) (qd2 hb9)
          clear hb9 z0 z1 z2 HR8
          go_wp2
          go_roundw
          case rel => exact ⟨k + 1, n2, by rw [HST.out, HSE.out, hwt]; go_num, by rw [HST.out, HSE.out, hwt]; simp only; omega, by rw [HST.out, HSE.out]; exact HR9.out⟩
          case measure => simp [intOf]; omega
        · have HSE : Hid (qcz s lv p = ⟨tb, tl, td⟩) := HSR.out rfl ht0
          have HGT : Hid (wc.heap[w1.heap.size]? = some (.cells #[.int .u8 (tb : Int), .int .i64 tl, .int .i64 td] 95 (0, 0))) := hG3
          have HRT : Hid (qck w wc w.heap.size (w.heap.size + 1) w.heap.size s (2 ^ lv) n2 u6 acc) := hR3
          have ht0i : (tl == 0) = false := by simpa using ht0
          clear hR3 hG3 HSB HSR HLZ HGZ
          go_upto_region 10 with fail
          generalize wc = W at *
          clear x0 x1 x2 f0 f1 f2
          obtain ⟨y0, y1, y2, _, _, _⟩ := qaf HGT.out
          have h3n := qfu W ⟨tb, tl, td⟩
          simp only at h3n
          have HN3 : Hid (∀ (j : Nat) (u : Value), [Value.int .u8 ((tb : Nat) : Int), .int .i64 tl, .int .i64 td][j]? = some u → (W.alloc (.cells #[.int .u8 ((tb : Nat) : Int), .int .i64 tl, .int .i64 td] 95)).cell? ((⟨W.heap.size, 0, none⟩ : Addr).add j) = some u) := h3n
          have HWD : Hid (∀ W', Calls Tryz.prog 45 #[.agg #[.int .u8 ((tb : Nat) : Int), .int .i64 tl, .int .i64 td]] W' fun e w' => e = .returned (.int .i64 (wid ⟨tb, tl, td⟩)) ∧ Below W'.heap.size W' w') := fun W' => qfq ⟨tb, tl, td⟩ W'
          clear h3n
          have HONE : Hid (∀ u ∈ [Value.int .u8 ((tb : Nat) : Int), .int .i64 tl, .int .i64 td], u.oneCell' = true) := qia _ _ _
          have hszW : w.heap.size ≤ W.heap.size := HRT.out.2.2.size
          have hgtW : w1.heap.size < W.heap.size := (Array.getElem?_eq_some_iff.1 HGT.out).1
          have hwp := qed ⟨tb, tl, td⟩
          have HWS : Hid ((p : Int) + wid ⟨tb, tl, td⟩ ≤ s.size) := by unfold Hid; rw [← HSE.out]; exact HOK.out.2.2.1
          have hws := HWS.out
          generalize hwt : wid ⟨tb, tl, td⟩ = wt at *
          go_wp2_with (at_builtin; refine wpList_append_own _ rfl _ _ 33 rfl w.heap.size 95 i0 (.agg #[.int .u8 0, .int .i64 0, .int .i64 0]) 3 24 Tryz.underlying33 hi hz0 hz1 hz2 rfl (by decide) _ _ _ rfl (HRT.out.1.alloc _) ⟨W.heap.size, 0, none⟩ 1 1 [.int .u8 ((tb : Nat) : Int), .int .i64 tl, .int .i64 td] rfl rfl HN3.out HONE.out (by unfold maxLen; omega) (by omega) (by simp; omega) ?_)
          intro v8 w8 hown8 hg8 _
          have hO8 : w8.ownsRow w.heap.size 95 3 v8 (acc ++ [(⟨tb, tl, td⟩ : Tok)]).length (tcs (acc ++ [(⟨tb, tl, td⟩ : Tok)])) := by rw [qdx, List.length_append]; exact hown8
          have HR8 : Hid (qck w w8 w.heap.size (w.heap.size + 1) w.heap.size s (2 ^ lv) n2 v8 (acc ++ [(⟨tb, tl, td⟩ : Tok)])) := HRT.out.app hszW hg8 hO8
          have hG8 := qa3 hg8 ((heap_alloc_old _ _ hgtW).trans HGT.out) (fun e => HNE.out e.symm)
          obtain ⟨z0, z1, z2, _, _, _⟩ := qaf hG8
          clear hown8 hg8 hO8 hG8 y0 y1 y2 HN3 HGT HRT
          go_wp2_with fail
          refine (HWD.out _).mono ?_
          rintro e w9 ⟨rfl, hb9⟩
          have HR9 : Hid (qck w w9 w.heap.size (w.heap.size + 1) w.heap.size s (2 ^ lv) n2 v8 (acc ++ [(⟨tb, tl, td⟩ : Tok)])) := HR8.out.step (HR8.out.2.1.below hb9) (hb9.mono HR8.out.2.2.size) (qd2 hb9)
          clear hb9 z0 z1 z2 HR8
          go_wp2
          go_roundw
          case rel => exact ⟨k + 1, n2, by rw [HST.out, HSE.out, hwt]; go_num, by rw [HST.out, HSE.out, hwt]; simp only; omega, by rw [HST.out, HSE.out]; exact HR9.out⟩
          case measure => simp [intOf]; omega
      · rw [hL] at HSB HSR
        have HSE : Hid (qcz s lv p = ⟨byt s p, 0, 0⟩) := HSB.out (.inl rfl)
        have hGz := qm2 hG3 qct
        have HGT : Hid (((put3 wc w1.heap.size qct).setCell ⟨w1.heap.size, 0, none⟩ (.int .u8 (byt s p : Int))).heap[w1.heap.size]? = some (.cells #[.int .u8 (byt s p : Int), .int .i64 0, .int .i64 0] 95 (0, 0))) := qm3 hGz _
        have HRT : Hid (qck w ((put3 wc w1.heap.size qct).setCell ⟨w1.heap.size, 0, none⟩ (.int .u8 (byt s p : Int))) w.heap.size (w.heap.size + 1) w.heap.size s (2 ^ lv) n2 u6 acc) := (hR3.put hG3 HNE.out hBg (qa1 _ _ _)).put hGz HNE.out hBg (qa5 _ ⟨w1.heap.size, 0, none⟩ _)
        have hpz : put3 wc w1.heap.size qct = ((wc.setCell ⟨w1.heap.size, 0, none⟩ (.int .u8 0)).setCell ⟨w1.heap.size, 1, none⟩ (.int .i64 0)).setCell ⟨w1.heap.size, 2, none⟩ (.int .i64 0) := rfl
        rw [hpz] at HGT HRT
        clear hR3 hG3 HSB HSR HLZ HGZ hGz hpz
        go_upto_region 10 with fail
        generalize World.setCell (World.setCell (World.setCell (World.setCell wc _ _) _ _) _ _) _ _ = W at *
        clear x0 x1 x2 f0 f1 f2
        obtain ⟨y0, y1, y2, _, _, _⟩ := qaf HGT.out
        have h3n := qfu W ⟨byt s p, 0, 0⟩
        simp only at h3n
        have HN3 : Hid (∀ (j : Nat) (u : Value), [Value.int .u8 ((byt s p : Nat) : Int), .int .i64 0, .int .i64 0][j]? = some u → (W.alloc (.cells #[.int .u8 ((byt s p : Nat) : Int), .int .i64 0, .int .i64 0] 95)).cell? ((⟨W.heap.size, 0, none⟩ : Addr).add j) = some u) := h3n
        have HWD : Hid (∀ W', Calls Tryz.prog 45 #[.agg #[.int .u8 ((byt s p : Nat) : Int), .int .i64 0, .int .i64 0]] W' fun e w' => e = .returned (.int .i64 (wid ⟨byt s p, 0, 0⟩)) ∧ Below W'.heap.size W' w') := fun W' => qfq ⟨byt s p, 0, 0⟩ W'
        clear h3n
        have HONE : Hid (∀ u ∈ [Value.int .u8 ((byt s p : Nat) : Int), .int .i64 0, .int .i64 0], u.oneCell' = true) := qia _ _ _
        have hszW : w.heap.size ≤ W.heap.size := HRT.out.2.2.size
        have hgtW : w1.heap.size < W.heap.size := (Array.getElem?_eq_some_iff.1 HGT.out).1
        have hwp := qed ⟨byt s p, 0, 0⟩
        have HWS : Hid ((p : Int) + wid ⟨byt s p, 0, 0⟩ ≤ s.size) := by unfold Hid; rw [← HSE.out]; exact HOK.out.2.2.1
        have hws := HWS.out
        generalize hwt : wid ⟨byt s p, 0, 0⟩ = wt at *
        go_wp2_with (at_builtin; refine wpList_append_own _ rfl _ _ 33 rfl w.heap.size 95 i0 (.agg #[.int .u8 0, .int .i64 0, .int .i64 0]) 3 24 Tryz.underlying33 hi hz0 hz1 hz2 rfl (by decide) _ _ _ rfl (HRT.out.1.alloc _) ⟨W.heap.size, 0, none⟩ 1 1 [.int .u8 ((byt s p : Nat) : Int), .int .i64 0, .int .i64 0] rfl rfl HN3.out HONE.out (by unfold maxLen; omega) (by omega) (by simp; omega) ?_)
        intro v8 w8 hown8 hg8 _
        have hO8 : w8.ownsRow w.heap.size 95 3 v8 (acc ++ [(⟨byt s p, 0, 0⟩ : Tok)]).length (tcs (acc ++ [(⟨byt s p, 0, 0⟩ : Tok)])) := by rw [qdx, List.length_append]; exact hown8
        have HR8 : Hid (qck w w8 w.heap.size (w.heap.size + 1) w.heap.size s (2 ^ lv) n2 v8 (acc ++ [(⟨byt s p, 0, 0⟩ : Tok)])) := HRT.out.app hszW hg8 hO8
        have hG8 := qa3 hg8 ((heap_alloc_old _ _ hgtW).trans HGT.out) (fun e => HNE.out e.symm)
        obtain ⟨z0, z1, z2, _, _, _⟩ := qaf hG8
        clear hown8 hg8 hO8 hG8 y0 y1 y2 HN3 HGT HRT
        go_wp2_with fail
        refine (HWD.out _).mono ?_
        rintro e w9 ⟨rfl, hb9⟩
        have HR9 : Hid (qck w w9 w.heap.size (w.heap.size + 1) w.heap.size s (2 ^ lv) n2 v8 (acc ++ [(⟨byt s p, 0, 0⟩ : Tok)])) := HR8.out.step (HR8.out.2.1.below hb9) (hb9.mono HR8.out.2.2.size) (qd2 hb9)
        clear hb9 z0 z1 z2 HR8
        go_wp2
        go_roundw
        case rel => exact ⟨k + 1, n2, by rw [HST.out, HSE.out, hwt]; go_num, by rw [HST.out, HSE.out, hwt]; simp only; omega, by rw [HST.out, HSE.out]; exact HR9.out⟩
        case measure => simp [intOf]; omega
   · have HE : Hid (tokK s lv k = tokK s lv s.size) := qx4 (by omega)
     have hR' := hR
     rw [HE.out] at hR'
     have hpi : ¬ ((tokK s lv k).2 : Int) < (s.size : Int) := by omega
     have HTR : Hid (wr.ownsRow w.heap.size 95 3 _ (tokK s lv s.size).1.length (tcs (tokK s lv s.size).1)) := hR'.1
     have HB : Hid (Below w.heap.size w wr) := hR.2.2
     clear hR hR' hfar hn
     go_wp2
     go_ret
     exact ⟨_, rfl, HTR.out, HB.out⟩
open Go.RowKit
set_option linter.unusedVariables false
theorem qsp (s : ByteArray) (lv : Int) (w : World) (h : lv < 0 ∨ 9 < lv) :
    Calls Tryz.prog 10 #[.string s, .int .i64 lv] w fun e w' => e = .returned (.tuple #[.slice none 0 0, .int .i64 1]) ∧ w' = w := by
 rcases h with h | h
 · go_enter Tryz.func10, Tryz.ntmps10
   go_wp2
   go_ret2
   exact ⟨rfl, rfl⟩
 · have h0 : ¬ lv < 0 := by omega
   go_enter Tryz.func10, Tryz.ntmps10
   go_wp2
   go_ret2
   exact ⟨rfl, rfl⟩
theorem q30 (s : ByteArray) (lv : Nat) (w : World) (h9 : lv ≤ 9) (hs : 65536 < s.size) :
    Calls Tryz.prog 10 #[.string s, .int .i64 (lv : Int)] w fun e w' => e = .returned (.tuple #[.slice none 0 0, .int .i64 2]) ∧ w' = w := by
 have h0 : ¬ (lv : Int) < 0 := by omega
 have h1 : ¬ (9 : Int) < (lv : Int) := by omega
 have h2 : (65536 : Int) < (s.size : Int) := by omega
 go_enter Tryz.func10, Tryz.ntmps10
 go_wp2
 go_ret2
 exact ⟨rfl, rfl⟩
theorem qso (s : ByteArray) (lv : Nat) (w : World) (h9 : lv ≤ 9) (hs : s.size ≤ 65536) :
    Calls Tryz.prog 10 #[.string s, .int .i64 (lv : Int)] w fun e w' => ∃ v, e = .returned (.tuple #[v, .int .i64 0]) ∧ w'.ownsRow w.heap.size 95 3 v (toks s lv).length (tcs (toks s lv)) ∧ Below w.heap.size w w' := by
 have h0 : ¬ (lv : Int) < 0 := by omega
 have h1 : ¬ (9 : Int) < (lv : Int) := by omega
 have h2 : ¬ (65536 : Int) < (s.size : Int) := by omega
 by_cases hl : lv = 0
 · subst hl
   have HC : Hid (Calls _ _ _ _ _) := qpw s w (by omega)
   go_enter Tryz.func10, Tryz.ntmps10
   go_wp2_with fail
   refine (Hid.out HC : Calls _ _ _ _ _).mono ?_
   rintro e w1 ⟨v, rfl, hT, hB⟩
   have HT : Hid (w1.ownsRow w.heap.size 95 3 v (toks s 0).length (tcs (toks s 0))) := hT
   clear hT HC
   go_wp2
   go_ret2
   exact ⟨v, rfl, HT.out, hB⟩
 · have HC : Hid (Calls _ _ _ _ _) := qoz s lv w (by omega) (by omega) h9
   have hli : ((lv : Int) == 0) = false := by simp; omega
   have HE : Hid (toks s lv = (tokK s lv s.size).1) := by unfold Hid toks; rw [if_neg hl]
   go_enter Tryz.func10, Tryz.ntmps10
   go_wp2_with fail
   refine (Hid.out HC : Calls _ _ _ _ _).mono ?_
   rintro e w1 ⟨v, rfl, hT, hB⟩
   rw [← HE.out] at hT
   have HT : Hid (w1.ownsRow w.heap.size 95 3 v (toks s lv).length (tcs (toks s lv))) := hT
   clear hT HC
   go_wp2
   go_ret2
   exact ⟨v, rfl, HT.out, hB⟩
end Go.Proofs.YthkppipdflmekaaGreat
