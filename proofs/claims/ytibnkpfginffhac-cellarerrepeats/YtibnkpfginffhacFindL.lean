/- Contract of (*match.finder).longest. -/
import Derived.Test.YtibnkpfginffhacFindS
import Derived.Deep.DeepCutAuto
import Derived.Laws.ResultCell
namespace Go.Proofs.Ytibnkpfginffhac
open Go.RowKit Go.WideMaps Go.Maps
attribute [local go_sem ↓] Go.wp_at_zero Go.wp_at_succ
set_option linter.unusedVariables false

theorem find_run {w : World} {B gf gm n : Nat} {s : ByteArray} {tr : Nat} (h : FinderAt w B gf gm s tr n) (hn : n + 3 ≤ s.size) (hs : s.size ≤ 100000000) : ∀ m, (Instr.lookup 111 (.map (some gm)) (.string (s.extract n (n + 3))) false).run Try.prog (w.drewN m) = .ok (.int .i64 (prevP s n : Int)) (w.drewN m) := by
  intro m
  obtain ⟨_, _, bv, D, h3, h4, h5, h6⟩ := h
  have h4' : (w.drewN m).ownsMap Try.prog 9 (plainElem Try.prog 3) gm n D := h4
  obtain ⟨c, hrun, hat, _⟩ := h4'.lookup_int strLaw Try.underlying111 Try.underlying3 (zeroI _) (key_of s n hn hs)
  rw [h5 (key3 s n)] at hat
  simp only [DataW.lit.injEq, Lit.int.injEq, true_and] at hat
  subst hat
  exact hrun
theorem find_before {w : World} {B gf gm n p : Nat} {s : ByteArray} {tr : Nat} (h : FinderAt w B gf gm s tr n) (hp : p < n) : ∃ g cap, w.cell? ⟨gf, 3, none⟩ = some (.slice (some ⟨g, 0, none⟩) n cap) ∧ w.cell? ⟨g, p, none⟩ = some (.int .i64 (prevP s p : Int)) := by
  obtain ⟨_, _, bv, D, h3, h4, h5, h6⟩ := h
  obtain ⟨g, cap, rfl, _⟩ := own_form h6 (by omega)
  refine ⟨g, cap, ?_, ?_⟩
  · rw [cell_of_row _ _ _ _ _ _ h3]; rfl
  · rw [h6.cellAt p (by omega), befs_at s n p hp]
/-- What is left to look at. -/
def ChainAt (s : ByteArray) (tr at_ top j place : Nat) (best : Tok) : Prop := longF s tr at_ = chainF s at_ top (tr - j) place best ∧ PlaceOk s at_ place ∧ GoodT s at_ best
theorem chain_start {s : ByteArray} {tr at_ : Nat} (h : at_ + 3 ≤ s.size) : ChainAt s tr at_ (min 258 (s.size - at_)) 0 (prevP s at_) zeroT := by
  refine ⟨?_, prevP_ok s at_, .inl rfl⟩
  unfold longF
  rw [if_neg (by omega)]; rfl
theorem chain_end {s : ByteArray} {tr at_ top j place : Nat} {best : Tok} (h : ChainAt s tr at_ top j place best) (he : place = 0 ∨ tr ≤ j ∨ (top : Int) ≤ best.l ∨ 32768 < at_ - (place - 1)) : longF s tr at_ = best := by
  rw [h.1]
  cases hf : tr - j with
  | zero => rfl
  | succ f =>
    rw [chainF]
    split
    · rfl
    · rename_i h1
      rw [if_pos (by omega)]
theorem chain_next {s : ByteArray} {tr at_ j place : Nat} {best : Tok} (h : ChainAt s tr at_ (min 258 (s.size - at_)) j place best) (ha : at_ + 3 ≤ s.size) (h1 : 0 < place) (h2 : j < tr) (h3 : best.l < ((min 258 (s.size - at_) : Nat) : Int)) (h4 : at_ - (place - 1) ≤ 32768) :
    ChainAt s tr at_ (min 258 (s.size - at_)) (j + 1) (prevP s (place - 1)) (if best.l < (alikeF s (place - 1) at_ (min 258 (s.size - at_)) : Int) then ⟨0, alikeF s (place - 1) at_ (min 258 (s.size - at_)), ((at_ - (place - 1) : Nat) : Int)⟩ else best) := by
  obtain ⟨e, hp, hg⟩ := h
  refine ⟨?_, prevP_next hp h1, ?_⟩
  · rw [e, show tr - j = (tr - (j + 1)) + 1 by omega, chainF, if_neg (by omega), if_neg (by omega)]
  · split
    · exact good_rep hp h1 ha (by omega)
    · exact hg
theorem FinderAt.setTok {w : World} {B gf gm n b : Nat} {s : ByteArray} {tr : Nat} {c : Array Value} {p : Nat × Nat} (h : FinderAt w B gf gm s tr n) (hb : w.heap[b]? = some (.cells c 57 p)) {w' : World} (hg : w.grownBy w' (some b)) : FinderAt w' B gf gm s tr n := by
  obtain ⟨h1, h2, bv, D, h3, h4, h5, h6⟩ := h
  refine ⟨h1, h2, bv, D, grown_block hg h3 (fun e => ?_), h4.kept hg (fun e => ?_), h5, h6.kept hg (.inr (fun e => own_ne h6 hb (by decide) e.symm))⟩
  · obtain rfl : gf = b := by cases e; rfl
    rw [h3] at hb; simp only [Option.some.injEq, Obj.cells.injEq] at hb
    exact absurd hb.2.1 (by decide)
  · exact map_ne_cells h4 hb (by cases e; rfl)
theorem keptT_new {w w1 w2 : World} {g : Nat} (h : KeptT w w1) (hg : w1.grownBy w2 (some g)) (hn : w.heap.size ≤ g) : KeptT w w2 :=
  ⟨Nat.le_trans h.1 hg.size, fun b c p hb => grown_block hg (h.2 b c p hb) (fun e => by
    have := (Array.getElem?_eq_some_iff.1 hb).1
    cases e; omega)⟩
set_option maxRecDepth 100000 in
set_option maxHeartbeats 2000000 in
theorem longest_short (B gf gm : Nat) (s : ByteArray) (tr n at_ : Nat) (w : World) (hF : FinderAt w B gf gm s tr n) (hs : s.size ≤ 100000000) (ha : at_ ≤ s.size) (hn : n ≤ s.size) (hB : B ≤ w.heap.size) (h3 : s.size < at_ + 3) :
    Calls Try.prog 48 #[.pointer (some ⟨gf, 0, none⟩), .int .i64 (at_ : Int)] w fun e w' => e = .returned (tv (longF s tr at_)) ∧ FinderAt w' B gf gm s tr (seenTo s n at_) ∧ Below B w w' ∧ KeptT w w' := by
  have HL : Hid (longF s tr at_ = zeroT) := by unfold Hid longF; rw [if_pos h3]
  have hF0 := hF.below ((Below.refl _ w).alloc (Nat.le_refl _) (.cells #[.int .u8 0, .int .i64 0, .int .i64 0] 57))
  have HB0 : Hid (Below B w (w.alloc (.cells #[.int .u8 0, .int .i64 0, .int .i64 0] 57))) := (Below.refl _ w).alloc hB _
  have HSee : Hid (Calls _ _ _ _ _) := see_any B gf gm s tr n at_ _ hF0 hs (by omega) hn
  have HN : Hid ((w.alloc (.cells #[.int .u8 0, .int .i64 0, .int .i64 0] 57)).heap[w.heap.size]? = some (.cells #[.int .u8 0, .int .i64 0, .int .i64 0] 57 (0, 0))) := heap_alloc_new w _
  clear hF0 hF
  go_enter Try.func48, Try.ntmps48
  go_wp2_with fail
  refine (Hid.out HSee : Calls _ _ _ _ _).mono ?_
  rintro e w1 ⟨rfl, hF1, hB1, hK1⟩
  have hN1 := hK1.2 _ _ _ HN.out
  obtain ⟨c0, c1, c2⟩ := hF1.cells
  obtain ⟨r0, r1, r2, f0, f1, f2⟩ := tok_cell hN1
  have HF1 : Hid (FinderAt (put3 w1 w.heap.size zeroT) B gf gm s tr (seenTo s n at_)) := hF1.setTok hN1 (put3_grown _ _ _)
  have HB1 : Hid (Below B w (put3 w1 w.heap.size zeroT)) := (HB0.out.trans hB1).grown (put3_grown _ _ _) (Nat.le_trans hB (HB0.out.trans hB1).size) (fun j hj => by cases hj; exact hB)
  have HK1 : Hid (KeptT w (put3 w1 w.heap.size zeroT)) := keptT_new ((keptT_alloc w _).trans hK1) (put3_grown _ _ _) (Nat.le_refl _)
  clear hF1 hB1 hK1 hN1 HSee HN HB0
  go_wp2
  exact bodyPost_ret (v := .agg #[.int .u8 0, .int .i64 0, .int .i64 0]) (by simp [results, Try.results48, go_sem, *]) rfl ⟨by rw [HL.out]; rfl, HF1.out, HB1.out, HK1.out⟩
theorem longest_out {w wr : World} {B gf gm n : Nat} {s : ByteArray} {tr : Nat} {x y z : Value} (hF : FinderAt wr B gf gm s tr n) (hN : wr.heap[w.heap.size]? = some (.cells #[x, y, z] 57 (0, 0))) (hB : Below B w wr) (hK : KeptT w wr) (hB0 : B ≤ w.heap.size) (t : Tok) :
    FinderAt (put3 wr w.heap.size t) B gf gm s tr n ∧ Below B w (put3 wr w.heap.size t) ∧ KeptT w (put3 wr w.heap.size t) :=
  ⟨hF.setTok hN (put3_grown _ _ _), hB.grown (put3_grown _ _ _) (Nat.le_trans hB0 hK.1) (fun j hj => by cases hj; exact hB0), keptT_new hK (put3_grown _ _ _) (Nat.le_refl _)⟩
/-- The loop of longest: this is the best so far. -/
def LongAt (w wr : World) (B gf gm gb : Nat) (s : ByteArray) (tr at_ : Nat) (best : Tok) : Prop := wr.heap[gb]? = some (.cells #[.int .u8 (best.b : Int), .int .i64 best.l, .int .i64 best.d] 57 (0, 0)) ∧ wr.heap[w.heap.size]? = some (.cells #[.int .u8 0, .int .i64 0, .int .i64 0] 57 (0, 0)) ∧ FinderAt wr B gf gm s tr at_ ∧ Below B w wr ∧ KeptT w wr
theorem LongAt.drewN {w wr : World} {B gf gm gb : Nat} {s : ByteArray} {tr at_ : Nat} {best : Tok} (h : LongAt w wr B gf gm gb s tr at_ best) (m : Nat) : LongAt w (wr.drewN m) B gf gm gb s tr at_ best :=
  ⟨h.1, h.2.1, h.2.2.1, below_drewN h.2.2.2.1 m, h.2.2.2.2.trans (keptT_drewN _ m)⟩
theorem LongAt.put {w wr : World} {B gf gm gb : Nat} {s : ByteArray} {tr at_ : Nat} {best : Tok} (h : LongAt w wr B gf gm gb s tr at_ best) (hg : w.heap.size < gb) (hB0 : B ≤ w.heap.size) (t : Tok) : LongAt w (put3 wr gb t) B gf gm gb s tr at_ t :=
  ⟨put3_heap h.1 t, grown_block (put3_grown _ _ _) h.2.1 (fun e => by cases e; omega), h.2.2.1.setTok h.1 (put3_grown _ _ _), h.2.2.2.1.grown (put3_grown _ _ _) (Nat.le_trans hB0 h.2.2.2.2.1) (fun j hj => by cases hj; omega), keptT_new h.2.2.2.2 (put3_grown _ _ _) (by omega)⟩
set_option maxRecDepth 100000 in
set_option maxHeartbeats 4000000 in
theorem longest_long (B gf gm : Nat) (s : ByteArray) (tr n at_ : Nat) (w : World) (hF : FinderAt w B gf gm s tr n) (hs : s.size ≤ 100000000) (hn : n ≤ at_) (htr : tr ≤ 1000000) (hB : B ≤ w.heap.size) (h3 : at_ + 3 ≤ s.size) :
    Calls Try.prog 48 #[.pointer (some ⟨gf, 0, none⟩), .int .i64 (at_ : Int)] w fun e w' => e = .returned (tv (longF s tr at_)) ∧ FinderAt w' B gf gm s tr at_ ∧ Below B w w' ∧ KeptT w w' := by
  have hF0 := hF.below ((Below.refl _ w).alloc (Nat.le_refl _) (.cells #[.int .u8 0, .int .i64 0, .int .i64 0] 57))
  have HB0 : Hid (Below B w (w.alloc (.cells #[.int .u8 0, .int .i64 0, .int .i64 0] 57))) := (Below.refl _ w).alloc hB _
  have hse : seenTo s n at_ = at_ := by unfold seenTo; split <;> omega
  have hsee := see_any B gf gm s tr n at_ _ hF0 hs (by omega) (by omega)
  rw [hse] at hsee
  have HSee : Hid (Calls _ _ _ _ _) := hsee
  have HN : Hid ((w.alloc (.cells #[.int .u8 0, .int .i64 0, .int .i64 0] 57)).heap[w.heap.size]? = some (.cells #[.int .u8 0, .int .i64 0, .int .i64 0] 57 (0, 0))) := heap_alloc_new w _
  clear hF0 hF hsee hse
  go_enter Try.func48, Try.ntmps48
  go_wp2_with fail
  refine (Hid.out HSee : Calls _ _ _ _ _).mono ?_
  rintro e w1 ⟨rfl, hF1, hB1, hK1⟩
  have hN1 := hK1.2 _ _ _ HN.out
  obtain ⟨c0, c1, c2⟩ := hF1.cells
  have HF1 : Hid (FinderAt w1 B gf gm s tr at_) := hF1
  have HB1 : Hid (Below B w w1) := HB0.out.trans hB1
  have HK1 : Hid (KeptT w w1) := (keptT_alloc w _).trans hK1
  have HN1 : Hid (w1.heap[w.heap.size]? = some (.cells #[.int .u8 0, .int .i64 0, .int .i64 0] 57 (0, 0))) := hN1
  have hw1 : w.heap.size < w1.heap.size := (Array.getElem?_eq_some_iff.1 hN1).1
  clear hF1 hB1 hK1 hN1 HSee HN HB0
  have h3i : ¬ (s.size : Int) < (at_ : Int) + 3 := by omega
  obtain ⟨top, htop⟩ : ∃ top, top = min 258 (s.size - at_) := ⟨_, rfl⟩
  have HTP : Hid (top = min 258 (s.size - at_)) := htop
  have ht1 : top ≤ 258 := by omega
  have ht2 : at_ + top ≤ s.size := by omega
  clear htop
  go_upto_region 5 with fail
  go_cut [5, 6] (fun v p wx => v = .int .i64 (top : Int) ∧ p = .pointer (some ⟨w1.heap.size, 0, none⟩) ∧ wx = w1.alloc (.cells #[.int .u8 0, .int .i64 0, .int .i64 0] 57))
  case first =>
    go_wp2
    all_goals (go_meet; exact ⟨congrArg _ (by have := HTP.out; omega), rfl, rfl⟩)
  case rest =>
    obtain ⟨rfl, rfl, rfl⟩ := hcut
    have hF2 := HF1.out.below ((Below.refl _ w1).alloc (Nat.le_refl _) (.cells #[.int .u8 0, .int .i64 0, .int .i64 0] 57))
    have HF2 : Hid (FinderAt (w1.alloc (.cells #[.int .u8 0, .int .i64 0, .int .i64 0] 57)) B gf gm s tr at_) := hF2
    have HB2 : Hid (Below B w (w1.alloc (.cells #[.int .u8 0, .int .i64 0, .int .i64 0] 57))) := HB1.out.alloc (by have := HB1.out.size; omega) _
    have HK2 : Hid (KeptT w (w1.alloc (.cells #[.int .u8 0, .int .i64 0, .int .i64 0] 57))) := HK1.out.trans (keptT_alloc _ _)
    have HN2 : Hid ((w1.alloc (.cells #[.int .u8 0, .int .i64 0, .int .i64 0] 57)).heap[w.heap.size]? = some (.cells #[.int .u8 0, .int .i64 0, .int .i64 0] 57 (0, 0))) := (keptT_alloc _ _).2 _ _ _ HN1.out
    have HM2 : Hid ((w1.alloc (.cells #[.int .u8 0, .int .i64 0, .int .i64 0] 57)).heap[w1.heap.size]? = some (.cells #[.int .u8 0, .int .i64 0, .int .i64 0] 57 (0, 0))) := heap_alloc_new w1 _
    obtain ⟨d0, d1, d2⟩ := hF2.cells
    have hrun := find_run hF2 h3 hs
    clear c0 c1 c2 HF1 HB1 HK1 HN1 hF2
    generalize World.alloc w1 _ = W2 at *
    generalize w1.heap.size = gb at *
    have a0 : (0 : Int) ≤ (at_ : Int) := by omega
    have a1 : (at_ : Int) ≤ (at_ : Int) + 3 := by omega
    have a2 : (at_ : Int) + 3 ≤ (s.size : Int) := by omega
    have hrun0 := hrun 0
    rw [World.drewN_zero] at hrun0
    go_wp2
    go_quiet (fail)
    have HLA : Hid (LongAt w (W2.drewN nq) B gf gm gb s tr at_ zeroT) := LongAt.drewN ⟨HM2.out, HN2.out, HF2.out, HB2.out, HK2.out⟩ nq
    have HCH : Hid (ChainAt s tr at_ (min 258 (s.size - at_)) 0 (prevP s at_) zeroT) := chain_start h3
    clear HF2 HB2 HK2 HN2 HM2 hrun hrun0 d0 d1 d2
    generalize W2.drewN nq = W3 at *
    generalize prevP s at_ = pl0 at *
    go_wp2
    go_loopw [7, 8] (fun pl tt wr => ∃ (j place : Nat) (best : Tok), pl = .int .i64 (place : Int) ∧ tt = .int .i64 (j : Int) ∧ j ≤ tr ∧ ChainAt s tr at_ (min 258 (s.size - at_)) j place best ∧ LongAt w wr B gf gm gb s tr at_ best) (fun _ tt _ => tr - (intOf tt).toNat)
    case atStart => exact ⟨0, pl0, zeroT, rfl, rfl, by omega, HCH.out, HLA.out⟩
    case round =>
      clear HLA HCH
      obtain ⟨j, place, best, rfl, rfl, hj, hC, hL⟩ := hrel
      obtain ⟨b0, b1, b2, g0, g1, g2⟩ := tok_cell hL.1
      obtain ⟨r0, r1, r2, f0, f1, f2⟩ := tok_cell hL.2.1
      obtain ⟨c0, c1, c2⟩ := hL.2.2.1.cells
      have HC : Hid (ChainAt s tr at_ (min 258 (s.size - at_)) j place best) := hC
      have HL : Hid (LongAt w wr B gf gm gb s tr at_ best) := hL
      have hgd := hC.2.2.nonneg
      have hpo := hC.2.1
      have HOUT : Hid (FinderAt (put3 wr w.heap.size best) B gf gm s tr at_ ∧ Below B w (put3 wr w.heap.size best) ∧ KeptT w (put3 wr w.heap.size best)) := longest_out hL.2.2.1 hL.2.1 hL.2.2.2.1 hL.2.2.2.2 hB best
      clear hC hL
      obtain ⟨bb, bl, bd⟩ := best
      simp only at b0 b1 b2 hgd
      by_cases hend : place = 0 ∨ tr ≤ j ∨ (top : Int) ≤ bl
      · have HEN : Hid (longF s tr at_ = ⟨bb, bl, bd⟩) := chain_end HC.out (by
          rw [← HTP.out]
          rcases hend with h | h | h
          · exact .inl h
          · exact .inr (.inl h)
          · exact .inr (.inr (.inl h)))
        clear hpo HC HL
        by_cases p0 : place = 0
        · subst p0
          clear hend
          go_wp2
          exact bodyPost_ret (v := .agg #[.int .u8 (bb : Int), .int .i64 bl, .int .i64 bd]) (by simp [results, Try.results48, go_sem, *]) rfl ⟨by rw [HEN.out]; rfl, HOUT.out.1, HOUT.out.2.1, HOUT.out.2.2⟩
        · have p0i : (0 : Int) < (place : Int) := by omega
          by_cases p1 : tr ≤ j
          · have p1i : ¬ (j : Int) < (tr : Int) := by omega
            clear hend
            go_wp2
            exact bodyPost_ret (v := .agg #[.int .u8 (bb : Int), .int .i64 bl, .int .i64 bd]) (by simp [results, Try.results48, go_sem, *]) rfl ⟨by rw [HEN.out]; rfl, HOUT.out.1, HOUT.out.2.1, HOUT.out.2.2⟩
          · have p1i : (j : Int) < (tr : Int) := by omega
            have p2i : ¬ bl < (top : Int) := by omega
            clear hend
            go_wp2
            exact bodyPost_ret (v := .agg #[.int .u8 (bb : Int), .int .i64 bl, .int .i64 bd]) (by simp [results, Try.results48, go_sem, *]) rfl ⟨by rw [HEN.out]; rfl, HOUT.out.1, HOUT.out.2.1, HOUT.out.2.2⟩
      · have e1 : 0 < place := by omega
        have e2 : j < tr := by omega
        have e3 : bl < (top : Int) := by omega
        obtain ⟨p, rfl⟩ : ∃ p, place = p + 1 := ⟨place - 1, by omega⟩
        have hpa : p < at_ := by rcases hpo with h | h <;> omega
        clear hend hpo
        have q0 : (0 : Int) < ((p + 1 : Nat) : Int) := by omega
        have q1 : (j : Int) < (tr : Int) := by omega
        have q3 : ((p + 1 : Nat) : Int) - 1 = (p : Int) := by omega
        have q4 : (at_ : Int) - (p : Int) = ((at_ - p : Nat) : Int) := by omega
        have q5 : (at_ : Int) - ((at_ - p : Nat) : Int) = (p : Int) := by omega
        by_cases hwn : 32768 < at_ - p
        · have HEN : Hid (longF s tr at_ = ⟨bb, bl, bd⟩) := chain_end HC.out (.inr (.inr (.inr (by simpa using hwn))))
          have q6 : (32768 : Int) < ((at_ - p : Nat) : Int) := by omega
          clear HC HL
          generalize at_ - p = dist at *
          go_wp2
          exact bodyPost_ret (v := .agg #[.int .u8 (bb : Int), .int .i64 bl, .int .i64 bd]) (by simp [results, Try.results48, go_sem, *]) rfl ⟨by rw [HEN.out]; rfl, HOUT.out.1, HOUT.out.2.1, HOUT.out.2.2⟩
        · have hcn := chain_next HC.out h3 (by omega) e2 (by rw [← HTP.out]; exact e3) (by simp only [Nat.add_sub_cancel]; omega)
          rw [← HTP.out] at hcn
          simp only [Nat.add_sub_cancel] at hcn
          have hal := alikeF_le s top p at_
          have HAL : Hid (Calls _ _ _ _ _) := alike_any gf s p at_ top wr c0 (by omega) ht2 hs
          have q6 : ¬ (32768 : Int) < ((at_ - p : Nat) : Int) := by omega
          clear HOUT
          generalize hAA : alikeF s p at_ top = AA at *
          have HCN : Hid (ChainAt s tr at_ top (j + 1) (prevP s p) (if bl < (AA : Int) then ⟨0, (AA : Int), ((at_ - p : Nat) : Int)⟩ else ⟨bb, bl, bd⟩)) := hcn
          clear hcn hAA
          have hdb : at_ - p ≤ 32768 := by omega
          generalize hdd : at_ - p = dist at *
          clear hdd
          go_wp2_with fail
          refine (Hid.out HAL : Calls _ _ _ _ _).mono ?_
          rintro e w5 ⟨rfl, m5, rfl⟩
          clear HAL
          by_cases hbt : bl < (AA : Int)
          · have HL6 : Hid (LongAt w (put3 (wr.drewN m5) gb ⟨0, (AA : Int), (dist : Int)⟩) B gf gm gb s tr at_ ⟨0, (AA : Int), (dist : Int)⟩) := (HL.out.drewN m5).put hw1 hB _
            obtain ⟨g, cap, k1, k2⟩ := find_before HL6.out.2.2.1 hpa
            have p0 : (0 : Int) ≤ (p : Int) := by omega
            have p1 : (p : Int) < (at_ : Int) := by omega
            unfold put3 at k1 k2
            simp only [show ((0 : Nat) : Int) = 0 from rfl] at k1 k2
            rw [if_pos hbt] at HCN
            clear HL HC
            go_wp2
            go_roundw
            case rel => exact ⟨j + 1, prevP s p, _, rfl, by go_num, by omega, by rw [← HTP.out]; exact HCN.out, HL6.out⟩
            case measure => simp [intOf]; omega
          · obtain ⟨g, cap, k1, k2⟩ := find_before HL.out.2.2.1 hpa
            have p0 : (0 : Int) ≤ (p : Int) := by omega
            have p1 : (p : Int) < (at_ : Int) := by omega
            have HL6 : Hid (LongAt w (wr.drewN m5) B gf gm gb s tr at_ ⟨bb, bl, bd⟩) := HL.out.drewN m5
            rw [if_neg hbt] at HCN
            clear HL HC
            go_wp2
            go_roundw
            case rel => exact ⟨j + 1, prevP s p, _, rfl, by go_num, by omega, by rw [← HTP.out]; exact HCN.out, HL6.out⟩
            case measure => simp [intOf]; omega
end Go.Proofs.Ytibnkpfginffhac
