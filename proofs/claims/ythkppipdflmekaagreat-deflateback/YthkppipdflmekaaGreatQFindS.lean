/- Contract of (*match.finder).see. -/
import Derived.Test.YthkppipdflmekaaGreatQFindM
import Derived.Deep.RegionHeldLaw
import Derived.Deep.RegionLaw
import Derived.Deep.AppendLies
import Derived.Deep.DrawnRows
set_option maxRecDepth 100000
set_option maxHeartbeats 2000000
namespace Go.Proofs.YthkppipdflmekaaGreat
open Go.RowKit Go.WideMaps Go.Maps
attribute [local go_sem ↓] Go.wp_at_zero Go.wp_at_succ
set_option linter.unusedVariables false
def qg5 (s : ByteArray) (n to : Nat) : Nat := if n < min to (s.size - 2) then min to (s.size - 2) else n
theorem q0z (s : ByteArray) (k : Nat) (h : k + 3 ≤ s.size) (hs : s.size ≤ 100000000) : keyOf Tryz.prog 9 (.string (s.extract k (k + 3))) = some (.string (key3 s k).data.toList) := by
 refine keyOf_string_mk Tryz.underlying9 ?_
 rw [← qad, qba, List.length_take]
 unfold maxLen; omega
theorem qwa {w : World} {B n b m : Nat} {ty : TypeId} {sz : Nat} {v : Value} {xs : List Value} {P : Program} {kt : TypeId} {R : Value → Option (DataW Unit × List MemPlace)} {D : DataW Unit} (hO : w.ownsRow B ty sz v n xs) (hb : w.ownsMap P kt R b m D) : some b ≠ v.ownBlock := by
 intro e
 obtain ⟨es, clock, hb, _⟩ := hb
 rcases hO.2 with ⟨rfl, _⟩ | ⟨gb, cap, cur, rfl, _, hh, _⟩
 · cases e
 · have e2 : b = gb := by simpa [Value.ownBlock] using e
   subst e2
   rw [hb] at hh
   cases hh
theorem qdk {w : World} {b m g : Nat} {P : Program} {kt : TypeId} {R : Value → Option (DataW Unit × List MemPlace)} {D : DataW Unit} {c : Array Value} {ty : TypeId} {p : Nat × Nat} (hb : w.ownsMap P kt R b m D) (hg : w.heap[g]? = some (.cells c ty p)) : b ≠ g := by
 intro e
 obtain ⟨es, clock, hb, _⟩ := hb
 subst e
 rw [hb] at hg
 cases hg
theorem qyr {wr w2 : World} {B gf gm k g cap : Nat} {s : ByteArray} {tr : Nat} {v : Value} {D : DataW Unit} {o : Obj} {xs : List Value} (hG : wr.heap[gf]? = some (.cells #[.string s, .int .i64 (tr : Int), .map (some gm), v] 115 (0, 0))) (hO : wr.ownsRow B 3 1 v k xs)
    (hM : wr.ownsMap Tryz.prog 9 (plainElem Tryz.prog 3) gm k D) (hg : (wr.drew.alloc o).grownBy w2 v.ownBlock) (hO2 : w2.ownsRow B 3 1 (.slice (some ⟨g, 0, none⟩) (k + 1) cap) (k + 1) (zc (befs s (k + 1)))) :
    (w2.setCell ⟨gf, 3, none⟩ (.slice (some ⟨g, 0, none⟩) (k + 1) cap)).heap[gf]? = some (.cells #[.string s, .int .i64 (tr : Int), .map (some gm), .slice (some ⟨g, 0, none⟩) (k + 1) cap] 115 (0, 0)) ∧
    (w2.setCell ⟨gf, 3, none⟩ (.slice (some ⟨g, 0, none⟩) (k + 1) cap)).ownsRow B 3 1 (.slice (some ⟨g, 0, none⟩) (k + 1) cap) (k + 1) (zc (befs s (k + 1))) ∧
    (w2.setCell ⟨gf, 3, none⟩ (.slice (some ⟨g, 0, none⟩) (k + 1) cap)).ownsMap Tryz.prog 9 (plainElem Tryz.prog 3) gm k D := by
 have hgs : gf < wr.heap.size := (Array.getElem?_eq_some_iff.1 hG).1
 have hne := qcd hO hG (by decide)
 have q2 : w2.heap[gf]? = some (.cells #[.string s, .int .i64 (tr : Int), .map (some gm), v] 115 (0, 0)) := qa3 hg ((heap_alloc_old wr.drew o (show gf < wr.drew.heap.size from hgs)).trans hG) hne
 have hM2 : w2.ownsMap Tryz.prog 9 (plainElem Tryz.prog 3) gm k D := (hM.drew.alloc o).kept hg (qwa hO hM)
 refine ⟨?_, ?_, ?_⟩
 · rw [heap_setCell_same _ _ _ _ _ _ q2]; rfl
 · exact hO2.kept (qa5 _ _ _) (.inr (fun e => qcd hO2 q2 (by decide) e.symm))
 · exact hM2.setCell (qdk hM2 q2) _
theorem qys {wr w2 w4 : World} {B gf gm k m : Nat} {v u : Value} {D : DataW Unit} {o : Obj} {xs : List Value} {c : Array Value} {W : World} (hG : wr.heap[gf]? = some (.cells c 115 (0, 0))) (hO : wr.ownsRow B 3 1 v k xs)
    (hg : (wr.drew.alloc o).grownBy w2 v.ownBlock) (hW : W = w2.setCell ⟨gf, 3, none⟩ u) (hM : W.ownsMap Tryz.prog 9 (plainElem Tryz.prog 3) gm m D) (hg4 : W.grownBy w4 (some gm)) : qb9 wr w4 := by
 have hgs : gf < wr.heap.size := (Array.getElem?_eq_some_iff.1 hG).1
 have hne := qcd hO hG (by decide)
 have q2 : w2.heap[gf]? = some (.cells c 115 (0, 0)) := qa3 hg ((heap_alloc_old wr.drew o (show gf < wr.drew.heap.size from hgs)).trans hG) hne
 subst hW
 have k1 : qb9 wr (wr.drew.alloc o) := (qi3 wr 1).trans (qdd (wr.drewN 1) o)
 refine (k1.trans (qfl hg (qtk (hO.drew.alloc o) (by decide)))).trans ((qfl (qa5 _ _ _) ?_).trans (qfl hg4 ?_))
 · intro b hb c' p hc
   obtain rfl : gf = b := by cases hb; rfl
   rw [q2] at hc; simp only [Option.some.injEq, Obj.cells.injEq] at hc
   exact absurd hc.2.1 (by decide)
 · intro b hb c' p hc
   obtain rfl : gm = b := by cases hb; rfl
   exact qdk hM hc rfl
theorem qyt {W w4 : World} {B gf gm k g cap : Nat} {s : ByteArray} {tr : Nat} {D : DataW Unit} (hBf : B ≤ gf) (hBm : B ≤ gm) (hG : W.heap[gf]? = some (.cells #[.string s, .int .i64 (tr : Int), .map (some gm), .slice (some ⟨g, 0, none⟩) (k + 1) cap] 115 (0, 0)))
    (hO : W.ownsRow B 3 1 (.slice (some ⟨g, 0, none⟩) (k + 1) cap) (k + 1) (zc (befs s (k + 1)))) (hM : W.ownsMap Tryz.prog 9 (plainElem Tryz.prog 3) gm k D) (hD : qt6 D s k)
    (h4 : w4.ownsMap Tryz.prog 9 (plainElem Tryz.prog 3) gm (k + 1) (D.put (.string (key3 s k).data.toList) (.lit (.int .i64 ((k : Int) + 1))))) (hg : W.grownBy w4 (some gm)) : qak w4 B gf gm s tr (k + 1) :=
 ⟨hBf, hBm, _, _, qa3 hg hG (fun e => qdk hM hG (by cases e; rfl)), h4, qu5 hD hM.isMap, hO.kept hg (.inr (fun e => qwa hO hM e.symm))⟩
theorem qu6 (B gf gm : Nat) (s : ByteArray) (tr n to : Nat) (w : World) (hF : qak w B gf gm s tr n) (hs : s.size ≤ 100000000) (hto : to ≤ 100000001) (hn : n ≤ s.size) :
    Calls Tryz.prog 73 #[.pointer (some ⟨gf, 0, none⟩), .int .i64 (to : Int)] w fun e w' => e = .returned (.tuple #[]) ∧ qak w' B gf gm s tr (qg5 s n to) ∧ Below B w w' ∧ qb9 w w' := by
 obtain ⟨i0, hi, hz0, hz1, hz2⟩ := info_parts Tryz.infoIm
 have hBf := hF.1
 have hBm := hF.2.1
 obtain ⟨_, _, bv, D, h3, h4, h5, h6⟩ := id hF
 obtain ⟨ab, cb, rfl⟩ := qam h6
 have c3 : w.cell? ⟨gf, 3, none⟩ = some (.slice ab n cb) := by rw [cell_of_row _ _ _ _ _ _ h3]; rfl
 have HF : Hid (qak w B gf gm s tr n) := hF
 clear h3 h4 h5 h6 hF
 go_enter Tryz.func73, Tryz.ntmps73
 go_wp2
 go_loopw [4] (fun i wr => ∃ k : Nat, n ≤ k ∧ (k = n ∨ (k ≤ to ∧ k + 2 ≤ s.size)) ∧ i = .int .i64 (k : Int) ∧ qak wr B gf gm s tr k ∧ Below B w wr ∧ qb9 w wr) (fun i _ => s.size - (intOf i).toNat)
 case atStart => exact ⟨n, Nat.le_refl _, .inl rfl, rfl, HF.out, Below.refl _ _, qb9.refl _⟩
 case round =>
  clear c3 HF
  obtain ⟨k, hnk, hk, rfl, hF, hB, hKT⟩ := hrel
  have HKT : Hid (qb9 w wr) := hKT
  clear hKT
  obtain ⟨c0, c1, c2⟩ := hF.cells
  by_cases hlt : k < to ∧ k + 3 ≤ s.size
  · obtain ⟨hl1, hl2⟩ := hlt
    obtain ⟨_, _, bv, D, h3, h4, h5, h6⟩ := hF
    obtain ⟨ab, cb, rfl⟩ := qam h6
    have c3 : wr.cell? ⟨gf, 3, none⟩ = some (.slice ab k cb) := by rw [cell_of_row _ _ _ _ _ _ h3]; rfl
    have f3 : wr.frozen? ⟨gf, 3, none⟩ = false := frozen_of_row _ _ _ _ _ h3
    have hkey := q0z s k hl2 hs
    obtain ⟨c, hrun, hat, _⟩ := h4.drew.lookup_int qus Tryz.underlying113 Tryz.underlying3 (q34 _) hkey
    rw [h5 (key3 s k)] at hat
    simp only [DataW.lit.injEq, Lit.int.injEq, true_and] at hat
    subst hat
    have hki : (k : Int) < (to : Int) := by omega
    have hk0 : (0 : Int) ≤ (k : Int) := by omega
    have hk3 : (k : Int) + 3 ≤ (s.size : Int) := by omega
    have hkk : (k : Int) ≤ (k : Int) + 3 := by omega
    have hgs : gf < wr.heap.size := (Array.getElem?_eq_some_iff.1 h3).1
    have HO : Hid (wr.ownsRow B 3 1 (.slice ab k cb) k (zc (befs s k))) := h6
    have HM : Hid (wr.ownsMap Tryz.prog 9 (plainElem Tryz.prog 3) gm k D) := h4
    have HD : Hid (qt6 D s k) := h5
    have HG : Hid (wr.heap[gf]? = _) := h3
    have HB : Hid (Below B w wr) := hB
    have hBs : B ≤ wr.heap.size := by omega
    clear h6 h4 h5 h3 hB
    generalize hpl : qhe s (key3 s k) k = pl at *
    have HPL : Hid (qhe s (key3 s k) k = pl) := hpl
    clear hpl
    have HNE : Hid (some gf ≠ (Value.slice ab k cb).ownBlock) := qcd HO.out HG.out (by decide)
    have HGA : Hid (∀ o, (wr.drew.alloc o).heap[gf]? = some (.cells #[.string s, .int .i64 (tr : Int), .map (some gm), .slice ab k cb] 115 (0, 0))) := fun o => (heap_alloc_old wr.drew o (show gf < wr.drew.heap.size from hgs)).trans HG.out
    go_wp2
    go_region_law ((refine step_append_lies _ (by rfl) _ _ 39 (by rfl) B 3 i0 (.int .i64 0) 1 8 Tryz.underlying39 hi hz0 hz1 hz2 rfl (by decide) (.slice ab k cb) k _ (by rfl) (HO.out.drew.alloc _) ⟨wr.heap.size, 0, none⟩ 1 1 [.int .i64 (pl : Int)] (by rfl) rfl (cell_one_new _ _ _) (by intro u hu; simp at hu; subst hu; rfl) (by decide) (by unfold maxLen; omega) (by omega) (by simp; omega) (wr.heap.size + 1) (by simp) ?_; intro g cap w2 hown2 hgrow2 hat2 hlt2; have q2 := qa3 hgrow2 (HGA.out _) HNE.out; have q3 : w2.cell? ⟨gf, 3, none⟩ = some (.slice ab k cb) := (cell_of_row _ _ _ _ _ _ q2).trans rfl; have q4 : w2.frozen? ⟨gf, 3, none⟩ = false := frozen_of_row _ _ _ _ _ q2))
    all_goals
     have hown3 : w2.ownsRow B 3 1 (.slice (some ⟨g, 0, none⟩) (k + 1) cap) (k + 1) (zc (befs s (k + 1))) := by rw [qxj, q1f]; unfold qda; rw [HPL.out]; exact hown2
     obtain ⟨r1, r2, r3⟩ := qyr HG.out HO.out HM.out hgrow2 hown3
     have hB3 : Below B w (w2.setCell ⟨gf, 3, none⟩ (.slice (some ⟨g, 0, none⟩) (k + 1) cap)) := ((HB.out.drew.alloc (by exact hBs) _).grown hgrow2 (by simp; omega) (fun j hj => (HO.out.lt j hj).1)).setCell hBf _
     have d2 : (w2.setCell ⟨gf, 3, none⟩ (.slice (some ⟨g, 0, none⟩) (k + 1) cap)).cell? ⟨gf, 2, none⟩ = some (.map (some gm)) := by rw [cell_of_row _ _ _ _ _ _ r1]; rfl
     have HKK : Hid (∀ w4, (w2.setCell ⟨gf, 3, none⟩ (.slice (some ⟨g, 0, none⟩) (k + 1) cap)).grownBy w4 (some gm) → qb9 wr w4) := fun w4 hg4 => qys HG.out HO.out hgrow2 rfl r3 hg4
     clear hown2 hown3 hgrow2 hat2 hlt2 q2 q3 q4 hrun c0 c1 c2 c3 f3
     generalize World.setCell w2 _ _ = W3 at *
     have HR1 : Hid (W3.heap[gf]? = _) := r1
     have HR2 : Hid (W3.ownsRow B _ _ _ _ _) := r2
     have HB3 : Hid (Below B w W3) := hB3
     have hz3 := hB3.size
     have hg3 : gm < W3.heap.size := r3.lt
     clear r1 r2 hB3
     go_wp2_with (first
      | (at_mapUpdate; refine wpList_mapUpdate_own _ rfl _ _ _ 113 rfl 9 3 qus Tryz.underlying113 _ gm k _ rfl r3 (by unfold maxLen; omega) _ _ _ rfl rfl hkey _ [] (plainElem_int Tryz.underlying3 (WalkArith.wf_i64 (by omega))) ?_)
      | go_in)
     intro w4 hown4 hgrow4
     have HF4 : Hid (qak w4 B gf gm s tr (k + 1)) := qyt hBf hBm HR1.out HR2.out r3 HD.out hown4 hgrow4
     have HB4 : Hid (Below B w w4) := HB3.out.grown hgrow4 (by omega) (fun j hj => by cases hj; exact hBm)
     have HK4 : Hid (qb9 w w4) := HKT.out.trans (HKK.out w4 hgrow4)
     clear hown4 hgrow4 r3 d2
     go_wp2
     go_roundw
     case rel => exact ⟨k + 1, by omega, .inr ⟨by omega, by omega⟩, by go_num, HF4.out, HB4.out, HK4.out⟩
     case measure => simp [intOf]; omega
  · have HK : Hid (qg5 s n to = k) := by
      unfold Hid qg5
      split <;> omega
    have HF : Hid (qak wr B gf gm s tr k) := hF
    have HB : Hid (Below B w wr) := hB
    clear hF hB
    have hk0 : (0 : Int) ≤ (k : Int) := by omega
    by_cases hl1 : k < to
    · have hki : (k : Int) < (to : Int) := by omega
      have hk3 : ¬ (k : Int) + 3 ≤ (s.size : Int) := by omega
      go_wp2
      exact bodyPost_end (results_none rfl _ _ _) rfl ⟨rfl, by rw [HK.out]; exact HF.out, HB.out, HKT.out⟩
    · have hki : ¬ (k : Int) < (to : Int) := by omega
      go_wp2
      exact bodyPost_end (results_none rfl _ _ _) rfl ⟨rfl, by rw [HK.out]; exact HF.out, HB.out, HKT.out⟩
end Go.Proofs.YthkppipdflmekaaGreat
