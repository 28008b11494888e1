/- Contracts of deflate.equals, run, stepAt and Steps. -/
import Derived.Test.YthkppipdflmekaaGreatQMatchE
import Derived.Deep.QuietTactic
import Derived.BigQuiet
import Derived.Deep.RegionHeld3
import Derived.Deep.AppendLies
set_option maxRecDepth 100000
set_option maxHeartbeats 1000000
namespace Go.Proofs.YthkppipdflmekaaGreat
open Go.RowKit
set_option linter.unusedVariables false
theorem qhb {B : Nat} {w wr : World} (h : Below B w wr) (n : Nat) : Below B w (wr.drewN n) := ⟨h.os, h.tape, h.output, h.size, h.block⟩
theorem qtr {w : World} {b : Nat} {o : Obj} (h : w.heap[b]? = some o) : b < w.heap.size := (Array.getElem?_eq_some_iff.1 h).1
theorem qa2 {w : World} {b : Nat} {x y : Value} {ty : TypeId} (h : w.heap[b]? = some (.cells #[x, y] ty (0, 0))) : w.cell? ⟨b, 0, none⟩ = some x ∧ w.cell? ⟨b, 1, none⟩ = some y ∧ w.frozen? ⟨b, 0, none⟩ = false ∧ w.frozen? ⟨b, 1, none⟩ = false := by
 refine ⟨?_, ?_, frozen_of_row _ _ _ _ _ h, frozen_of_row _ _ _ _ _ h⟩ <;> (rw [cell_of_row _ _ _ _ _ _ h]; rfl)
theorem qc1 {w : World} {b : Nat} {x y : Value} {ty : TypeId} (h : w.heap[b]? = some (.cells #[x, y] ty (0, 0))) (u v : Value) : ((w.setCell ⟨b, 0, none⟩ u).setCell ⟨b, 1, none⟩ v).heap[b]? = some (.cells #[u, v] ty (0, 0)) := by
 rw [heap_setCell_same _ _ _ _ _ _ (heap_setCell_same _ _ _ _ _ _ h)]; rfl
theorem qtl {w w' : World} {B n sz : Nat} {ty : TypeId} {v : Value} {xs : List Value} (h : w.ownsRow B ty sz v n xs) (hb : Below w.heap.size w w') : w'.ownsRow B ty sz v n xs := by
 have hlt := h.lt
 refine ⟨h.1, ?_⟩
 rcases h.2 with h | ⟨g, cap, cur, rfl, h2, h3, h4⟩
 · exact .inl h
 · exact .inr ⟨g, cap, cur, rfl, h2, (hb.block _ (hlt g rfl).2).trans h3, h4⟩
theorem q01 (a b : Int) : (a == b) = decide (a = b) := by rw [Bool.eq_iff_iff]; simp
theorem qty (v : Value) (zs : List Int) (w : World) (hR : IQ w v zs) (h0 : 0 < zs.length) (hl : zs.length ≤ 1000000) :
    Calls Tryz.prog 62 #[v] w fun e w' => e = .returned (.int .i64 ((min (eqs zs 0) 138 : Nat) : Int)) ∧ ∃ m, w' = w.drewN m := by
 obtain ⟨g, o, cap, rfl, hg, hc⟩ := hR
 have HC : Hid (∀ i, i < zs.length → w.cell? ⟨g, o + i, none⟩ = some (.int .i64 (zs.getD i 0))) := hc
 have c0 := hc 0 h0
 rw [Nat.add_zero] at c0
 clear hc
 go_enter Tryz.func62, Tryz.ntmps62
 go_wp2
 go_loopw [3] (fun i wr => ∃ n : Nat, i = .int .i64 (n : Int) ∧ (1 ≤ n ∧ n ≤ zs.length ∧ n ≤ 138 ∧ ∀ j, j < n → zs.getD j 0 = zs.getD 0 0) ∧ ∃ m, wr = w.drewN m) (fun i _ => 138 - (intOf i).toNat)
 case atStart => exact ⟨1, rfl, ⟨Nat.le_refl _, h0, by decide, fun j hj => by obtain rfl : j = 0 := by omega
                                                                              rfl⟩, 0, rfl⟩
 case round =>
  obtain ⟨n, rfl, ⟨hn1, hn2, hn3, hn4⟩, m, rfl⟩ := hrel
  have HE : Hid (n ≤ eqs zs 0) := q04 (by omega) (fun j hj => by rw [Nat.zero_add]; exact hn4 j hj)
  have HN4 : Hid (∀ j, j < n → zs.getD j 0 = zs.getD 0 0) := hn4
  clear hn4
  have i1 : (0 : Int) ≤ (n : Int) := by omega
  by_cases hlt : n < zs.length
  · have hg1 : decide ((n : Int) < (zs.length : Int)) = true := by simpa using hlt
    have i2 : (n : Int) < (zs.length : Int) := by omega
    have i3 : (0 : Int) < (zs.length : Int) := by omega
    by_cases h138 : n < 138
    · have hg2 : decide ((n : Int) < 138) = true := by simp; omega
      have hcn : w.cell? ⟨g, o + n, none⟩ = some (.int .i64 (zs.getD n 0)) := HC.out n hlt
      by_cases he : zs.getD n 0 = zs.getD 0 0
      · have hq : (zs.getD n 0 == zs.getD 0 0) = true := by rw [q01]; simpa using he
        have HS : Hid (∀ j, j < n + 1 → zs.getD j 0 = zs.getD 0 0) := fun j hj => by
         rcases Nat.lt_or_ge j n with h | h
         · exact HN4.out j h
         · obtain rfl : j = n := by omega
           exact he
        clear he
        generalize zs.getD n 0 = Z at *
        generalize zs.getD 0 0 = Y at *
        go_wp2
        go_quiet (fail)
        go_wp2
        go_roundw
        case rel => exact ⟨n + 1, by go_num, ⟨by omega, by omega, by omega, HS.out⟩, m + nq, rfl⟩
        case measure => simp [intOf]; omega
      · have hq : (zs.getD n 0 == zs.getD 0 0) = false := by rw [q01]; simpa using he
        have HF : Hid (min (eqs zs 0) 138 = n) := by
         have := qzy (zs := zs) (i := 0) (n := n) (by omega) (by rw [Nat.zero_add]; exact he)
         have := HE.out
         unfold Hid; omega
        clear he
        generalize zs.getD n 0 = Z at *
        generalize zs.getD 0 0 = Y at *
        go_wp2
        go_quiet (fail)
        go_wp2
        go_ret
        exact ⟨by rw [HF.out]; rfl, m + nq, by simp⟩
    · have hg2 : decide ((n : Int) < 138) = false := by simp; omega
      have HF : Hid (min (eqs zs 0) 138 = n) := by
       have := HE.out
       unfold Hid; omega
      go_wp2
      go_quiet (fail)
      go_wp2
      go_ret
      exact ⟨by rw [HF.out]; rfl, m + nq, by simp⟩
  · have hg1 : decide ((n : Int) < (zs.length : Int)) = false := by simp; omega
    have HF : Hid (min (eqs zs 0) 138 = n) := by
     have := HE.out
     have := qwv zs 0
     unfold Hid; omega
    go_wp2
    go_quiet (fail)
    go_wp2
    go_ret
    exact ⟨by rw [HF.out]; rfl, m + nq, by simp⟩
def sv (s : Stp) : Value := .agg #[.int .i64 s.sym, .int .i64 s.more]
theorem q19 (sym n least most : Nat) (w : World) (h1 : least ≤ min n most) (h2 : sym ≤ 100000) (h3 : n ≤ 1000000) (h4 : most ≤ 1000000) :
    Calls Tryz.prog 63 #[.int .i64 (sym : Int), .int .i64 (n : Int), .int .i64 (least : Int), .int .i64 (most : Int)] w fun e w' => e = .returned (.tuple #[sv ⟨(sym : Int), ((min n most : Nat) : Int) - least⟩, .int .i64 ((min n most : Nat) : Int)]) ∧ Below w.heap.size w w' := by
 have HB : Hid (∀ c, Below w.heap.size w (w.alloc (.cells c 41))) := fun c => (Below.refl _ w).alloc (Nat.le_refl _) _
 go_enter Tryz.func63, Tryz.ntmps63
 by_cases h : n ≤ most
 · have e : min n most = n := by omega
   rw [e] at h1 ⊢
   have hi : (n : Int) ≤ (most : Int) := by omega
   have hm : min (n : Int) (most : Int) = (n : Int) := by omega
   clear e
   go_wp2
   refine bodyPost_ret (v := .tuple #[sv ⟨(sym : Int), (n : Int) - least⟩, .int .i64 (n : Int)]) (by simp [results, Tryz.results63, go_sem, sv]) rfl ⟨rfl, HB.out _⟩
 · have e : min n most = most := by omega
   rw [e] at h1 ⊢
   have hi : ¬ (n : Int) ≤ (most : Int) := by omega
   have hm : min (n : Int) (most : Int) = (most : Int) := by omega
   clear e
   go_wp2
   refine bodyPost_ret (v := .tuple #[sv ⟨(sym : Int), (most : Int) - least⟩, .int .i64 (most : Int)]) (by simp [results, Tryz.results63, go_sem, sv]) rfl ⟨rfl, HB.out _⟩
theorem Tryz.undJ : Tryz.prog.underlying 39 = some (.slice (Tryz.prog.elem 39)) := by kernel_rfl
theorem Tryz.szJ (W : World) : (sizeOf (Tryz.prog.elem 39)).run Tryz.prog W = .ok 1 W := by kernel_rfl
theorem q3e {g o N cap m : Nat} (h : m ≤ N) (hm : m < cap) (hcap : cap ≤ 9223372036854775807) (W : World) : (Instr.slice 39 (.slice (some ⟨g, o, none⟩) N cap) (some (.int .i64 (m : Int))) none none).run Tryz.prog W = .ok (.slice (some ⟨g, o + m, none⟩) (N - m) (cap - m)) W := by
 have hne : ¬ cap = m := by omega
 rw [run_slice_l (ht := Tryz.undJ) (h0 := by omega) (h1 := by omega), Tryz.szJ]
 simp [Result.andThen, sliced, Addr.add, hne]
theorem IQ.cut {w : World} {g o cap : Nat} {zs : List Int} (hg : g < w.heap.size) (hc : ∀ i, i < zs.length → w.cell? ⟨g, o + i, none⟩ = some (.int .i64 (zs.getD i 0))) (m : Nat) (hm : m ≤ zs.length) : IQ w (.slice (some ⟨g, o + m, none⟩) (zs.length - m) (cap - m)) (zs.drop m) :=
 ⟨g, o + m, cap - m, by rw [List.length_drop], hg, fun i hi => by rw [List.length_drop] at hi; rw [Nat.add_assoc, hc (m + i) (by omega), qem]⟩
theorem qzz (zs : List Int) (i : Nat) : eqs (zs.drop i) 0 = eqs zs i := by
 unfold eqs
 rw [qem, Nat.add_zero, List.drop_zero]
theorem qsz (g o cap : Nat) (zs : List Int) (i : Nat) (w : World) (hg : g < w.heap.size) (hc : ∀ i, i < zs.length → w.cell? ⟨g, o + i, none⟩ = some (.int .i64 (zs.getD i 0))) (hcap : zs.length ≤ cap) (hcp : cap ≤ 9223372036854775807) (hl : zs.length ≤ 1000000) (hi : i < zs.length) :
    Calls Tryz.prog 31 #[.slice (some ⟨g, o, none⟩) zs.length cap, .int .i64 (i : Int)] w fun e w' => e = .returned (.tuple #[sv (qfx zs i), .int .i64 (qdn zs i : Int)]) ∧ Below w.heap.size w w' := by
 have HI : Hid (∀ n, IQ ((w.alloc (.cells #[.int .i64 0, .int .i64 0] 41)).drewN n) (.slice (some ⟨g, o + i, none⟩) (zs.length - i) (cap - i)) (zs.drop i)) := fun n => by
  have h0 : IQ w (.slice (some ⟨g, o + i, none⟩) (zs.length - i) (cap - i)) (zs.drop i) := IQ.cut hg hc i (by omega)
  exact h0.below (qhb ((Below.refl _ w).alloc (Nat.le_refl _) _) n)
 have hs1 := fun W => q3e (g := g) (o := o) (N := zs.length) (cap := cap) (m := i) (by omega) (by omega) hcp W
 have hci : (w.alloc (.cells #[.int .i64 0, .int .i64 0] 41)).cell? ⟨g, o + i, none⟩ = some (.int .i64 (zs.getD i 0)) := by
  rw [((Below.refl w.heap.size w).alloc (Nat.le_refl _) _).cell (p := ⟨g, o + i, none⟩) hg]; exact hc i hi
 have HCP : Hid (0 < i → (w.alloc (.cells #[.int .i64 0, .int .i64 0] 41)).cell? ⟨g, o + (i - 1), none⟩ = some (.int .i64 (zs.getD (i - 1) 0))) := fun h => by
  rw [((Below.refl w.heap.size w).alloc (Nat.le_refl _) _).cell (p := ⟨g, o + (i - 1), none⟩) hg]; exact hc (i - 1) (by omega)
 have hdl : (zs.drop i).length = zs.length - i := List.length_drop
 have HEQ : Hid (∀ n, Calls Tryz.prog 62 #[.slice (some ⟨g, o + i, none⟩) (zs.length - i) (cap - i)] ((w.alloc (.cells #[.int .i64 0, .int .i64 0] 41)).drewN n) fun e w' => e = .returned (.int .i64 ((min (eqs zs i) 138 : Nat) : Int)) ∧ ∃ m, w' = ((w.alloc (.cells #[.int .i64 0, .int .i64 0] 41)).drewN n).drewN m) := fun n => by
  have := qty _ (zs.drop i) _ (HI.out n) (by omega) (by omega)
  rw [qzz] at this
  exact this
 have HW0 : Hid (∀ n, ((w.alloc (.cells #[.int .i64 0, .int .i64 0] 41)).drewN n).heap[w.heap.size]? = some (.cells #[.int .i64 0, .int .i64 0] 41 (0, 0)) ∧ Below w.heap.size w ((w.alloc (.cells #[.int .i64 0, .int .i64 0] 41)).drewN n)) := fun n => ⟨heap_alloc_new w _, qhb ((Below.refl _ w).alloc (Nat.le_refl _) _) n⟩
 have hi0 : (0 : Int) ≤ (i : Int) := by omega
 have hi1 : (i : Int) < (zs.length : Int) := by omega
 have hi2 : (i : Int) ≤ (zs.length : Int) := by omega
 have hE1 := qpl hi
 have hE2 := qwv zs i
 have HS : Hid (qfx zs i = _) := qfx.eq_1 zs i
 have HP : Hid (qdn zs i = _) := qdn.eq_1 zs i
 clear hc HI hdl
 generalize qfx zs i = S at *
 generalize qdn zs i = P at *
 generalize eqs zs i = E at *
 generalize zs.getD i 0 = z at *
 generalize zs.getD (i - 1) 0 = y at *
 go_enter Tryz.func31, Tryz.ntmps31
 go_wp2
 go_quiet ((go_at_call 62; exact Calls.quiet_of (HEQ.out _)))
 obtain ⟨HN, HB⟩ := HW0.out nq
 have HCP2 : Hid (0 < i → ((w.alloc (.cells #[.int .i64 0, .int .i64 0] 41)).drewN nq).cell? ⟨g, o + (i - 1), none⟩ = some (.int .i64 y)) := HCP.out
 have HN' : Hid (_ = _) := HN
 have HB' : Hid (Below _ _ _) := HB
 clear HN HB HW0 HCP HEQ hci hs1
 generalize (World.alloc w _).drewN nq = W1 at *
 have hsz := HB'.out.size
 have HL : Hid (∀ sy n le mo, sy ≤ 100000 → le ≤ min n mo → n ≤ 1000000 → mo ≤ 1000000 → Calls Tryz.prog 63 #[.int .i64 ((sy : Nat) : Int), .int .i64 ((n : Nat) : Int), .int .i64 ((le : Nat) : Int), .int .i64 ((mo : Nat) : Int)] W1 fun e w' => e = .returned (.tuple #[sv ⟨(sy : Int), ((min n mo : Nat) : Int) - le⟩, .int .i64 ((min n mo : Nat) : Int)]) ∧ w'.heap[w.heap.size]? = some (.cells #[.int .i64 0, .int .i64 0] 41 (0, 0)) ∧ Below w.heap.size w w') := fun sy n le mo h1 h2 h3 h4 => (q19 sy n le mo W1 h2 h1 h3 h4).mono fun e w' ⟨he, hb⟩ => ⟨he, (hb.block _ (qtr HN'.out)).trans HN'.out, HB'.out.trans (hb.mono hsz)⟩
 by_cases hA : z = 0 ∧ 11 ≤ E
 · rw [if_pos hA] at HS HP
   obtain ⟨rfl, h11⟩ := hA
   have hm : (11 : Int) ≤ ((min E 138 : Nat) : Int) := by omega
   have HR : Hid (Calls _ _ _ _ _) := HL.out 18 (min E 138) 11 138 (by decide) (by omega) (by omega) (by omega)
   rw [show min (min E 138) 138 = min E 138 by omega] at HR
   generalize min E 138 = M at *
   go_wp2_with fail
   refine (Hid.out HR : Calls _ _ _ _ _).mono ?_
   rintro e w2 ⟨rfl, hN2, hB2⟩
   have k2 := qa2 hN2
   have HB2 : Hid (Below _ _ _) := hB2
   have HN2 : Hid (_ = _) := hN2
   clear hB2 hN2 HL HR
   unfold sv at *
   have k3 := qa2 (qc1 HN2.out (.int .i64 18) (.int .i64 ((M : Int) - 11)))
   go_wp2
   refine bodyPost_ret (v := .tuple #[.agg #[.int .i64 18, .int .i64 ((M : Int) - 11)], .int .i64 (M : Int)]) (by simp [results, Tryz.results31, go_sem, *]) rfl ⟨by rw [HS.out, HP.out]; rfl, (HB2.out.setCell (p := ⟨w.heap.size, 0, none⟩) (Nat.le_refl _) _).setCell (p := ⟨w.heap.size, 1, none⟩) (Nat.le_refl _) _⟩
 · rw [if_neg hA] at HS HP
   by_cases hB : z = 0 ∧ 3 ≤ E
   · rw [if_pos hB] at HS HP
     obtain ⟨rfl, h3⟩ := hB
     have hE11 : E < 11 := by omega
     have hm1 : ¬ (11 : Int) ≤ (E : Int) := by omega
     have hm : (3 : Int) ≤ (E : Int) := by omega
     have e1 : min E 138 = E := by omega
     rw [e1]
     clear e1 hA
     have HR : Hid (Calls _ _ _ _ _) := HL.out 17 E 3 10 (by decide) (by omega) (by omega) (by omega)
     generalize min E 10 = M at *
     go_wp2_with fail
     refine (Hid.out HR : Calls _ _ _ _ _).mono ?_
     rintro e w2 ⟨rfl, hN2, hB2⟩
     have k2 := qa2 hN2
     have HB2 : Hid (Below _ _ _) := hB2
     have HN2 : Hid (_ = _) := hN2
     clear hB2 hN2 HL HR
     unfold sv at *
     have k3 := qa2 (qc1 HN2.out (.int .i64 17) (.int .i64 ((M : Int) - 3)))
     go_wp2
     refine bodyPost_ret (v := .tuple #[.agg #[.int .i64 17, .int .i64 ((M : Int) - 3)], .int .i64 (M : Int)]) (by simp [results, Tryz.results31, go_sem, *]) rfl ⟨by rw [HS.out, HP.out]; rfl, (HB2.out.setCell (p := ⟨w.heap.size, 0, none⟩) (Nat.le_refl _) _).setCell (p := ⟨w.heap.size, 1, none⟩) (Nat.le_refl _) _⟩
   · rw [if_neg hB] at HS HP
     have hb1 : ((z == 0) = false) ∨ (z = 0 ∧ ¬ (11 : Int) ≤ ((min E 138 : Nat) : Int) ∧ ¬ (3 : Int) ≤ ((min E 138 : Nat) : Int)) := by
      by_cases h : z = 0
      · exact .inr ⟨h, by omega, by omega⟩
      · exact .inl (by simpa using h)
     by_cases hC : 0 < i ∧ y = z ∧ 3 ≤ E
     · rw [if_pos hC] at HS HP
       obtain ⟨hi3, rfl, h3⟩ := hC
       have hy0 : (y == 0) = false := by
        rcases hb1 with h | h
        · exact h
        · omega
       have hci := HCP2.out hi3
       obtain ⟨j, rfl⟩ : ∃ j, i = j + 1 := ⟨i - 1, by omega⟩
       rw [Nat.add_sub_cancel] at hci
       have hj1 : (0 : Int) ≤ (j : Int) := by omega
       have hj2 : (j : Int) < (zs.length : Int) := by omega
       have hm : (3 : Int) ≤ ((min E 138 : Nat) : Int) := by omega
       clear hA hB hb1 HCP2
       have HR : Hid (Calls _ _ _ _ _) := HL.out 16 (min E 138) 3 6 (by decide) (by omega) (by omega) (by omega)
       rw [show min (min E 138) 6 = min E 6 by omega] at HR
       generalize min E 6 = M at *
       generalize min E 138 = M2 at *
       go_wp2_with fail
       refine (Hid.out HR : Calls _ _ _ _ _).mono ?_
       rintro e w2 ⟨rfl, hN2, hB2⟩
       have k2 := qa2 hN2
       have HB2 : Hid (Below _ _ _) := hB2
       have HN2 : Hid (_ = _) := hN2
       clear hB2 hN2 HL HR
       unfold sv at *
       have k3 := qa2 (qc1 HN2.out (.int .i64 16) (.int .i64 ((M : Int) - 3)))
       go_wp2
       refine bodyPost_ret (v := .tuple #[.agg #[.int .i64 16, .int .i64 ((M : Int) - 3)], .int .i64 (M : Int)]) (by simp [results, Tryz.results31, go_sem, *]) rfl ⟨by rw [HS.out, HP.out]; rfl, (HB2.out.setCell (p := ⟨w.heap.size, 0, none⟩) (Nat.le_refl _) _).setCell (p := ⟨w.heap.size, 1, none⟩) (Nat.le_refl _) _⟩
     · rw [if_neg hC] at HS HP
       clear HL hA hB
       by_cases hi3 : 0 < i
       · have hci := HCP2.out hi3
         obtain ⟨j, rfl⟩ : ∃ j, i = j + 1 := ⟨i - 1, by omega⟩
         rw [Nat.add_sub_cancel] at hci
         have hj1 : (0 : Int) ≤ (j : Int) := by omega
         have hj2 : (j : Int) < (zs.length : Int) := by omega
         clear HCP2
         by_cases hyz : y = z
         · subst hyz
           have hE3 : ¬ 3 ≤ E := fun h => hC ⟨hi3, rfl, h⟩
           have hm3 : ¬ (3 : Int) ≤ ((min E 138 : Nat) : Int) := by omega
           have hm11 : ¬ (11 : Int) ≤ ((min E 138 : Nat) : Int) := by omega
           clear hC hb1
           generalize min E 138 = M2 at *
           by_cases hy0 : y = 0
           · subst hy0
             have k2 := qa2 HN'.out
             have k3 := qa2 (qc1 HN'.out (.int .i64 0) (.int .i64 0))
             go_wp2
             refine bodyPost_ret (v := .tuple #[.agg #[.int .i64 0, .int .i64 0], .int .i64 1]) (by simp [results, Tryz.results31, go_sem, *]) rfl ⟨by rw [HS.out, HP.out]; rfl, (HB'.out.setCell (p := ⟨w.heap.size, 0, none⟩) (Nat.le_refl _) _).setCell (p := ⟨w.heap.size, 1, none⟩) (Nat.le_refl _) _⟩
           · have hq : (y == 0) = false := by simpa using hy0
             have k2 := qa2 HN'.out
             have k3 := qa2 (qc1 HN'.out (.int .i64 y) (.int .i64 0))
             go_wp2
             refine bodyPost_ret (v := .tuple #[.agg #[.int .i64 y, .int .i64 0], .int .i64 1]) (by simp [results, Tryz.results31, go_sem, *]) rfl ⟨by rw [HS.out, HP.out]; rfl, (HB'.out.setCell (p := ⟨w.heap.size, 0, none⟩) (Nat.le_refl _) _).setCell (p := ⟨w.heap.size, 1, none⟩) (Nat.le_refl _) _⟩
         · have hq1 : (z == y) = false := by simpa using fun e => hyz e.symm
           clear hC
           rcases hb1 with hq | ⟨rfl, hm11, hm3⟩
           · generalize min E 138 = M2 at *
             have k2 := qa2 HN'.out
             have k3 := qa2 (qc1 HN'.out (.int .i64 z) (.int .i64 0))
             go_wp2
             refine bodyPost_ret (v := .tuple #[.agg #[.int .i64 z, .int .i64 0], .int .i64 1]) (by simp [results, Tryz.results31, go_sem, *]) rfl ⟨by rw [HS.out, HP.out]; rfl, (HB'.out.setCell (p := ⟨w.heap.size, 0, none⟩) (Nat.le_refl _) _).setCell (p := ⟨w.heap.size, 1, none⟩) (Nat.le_refl _) _⟩
           · generalize min E 138 = M2 at *
             have k2 := qa2 HN'.out
             have k3 := qa2 (qc1 HN'.out (.int .i64 0) (.int .i64 0))
             go_wp2
             refine bodyPost_ret (v := .tuple #[.agg #[.int .i64 0, .int .i64 0], .int .i64 1]) (by simp [results, Tryz.results31, go_sem, *]) rfl ⟨by rw [HS.out, HP.out]; rfl, (HB'.out.setCell (p := ⟨w.heap.size, 0, none⟩) (Nat.le_refl _) _).setCell (p := ⟨w.heap.size, 1, none⟩) (Nat.le_refl _) _⟩
       · obtain rfl : i = 0 := by omega
         clear HCP2 hC
         rcases hb1 with hq | ⟨rfl, hm11, hm3⟩
         · generalize min E 138 = M2 at *
           have k2 := qa2 HN'.out
           have k3 := qa2 (qc1 HN'.out (.int .i64 z) (.int .i64 0))
           go_wp2
           refine bodyPost_ret (v := .tuple #[.agg #[.int .i64 z, .int .i64 0], .int .i64 1]) (by simp [results, Tryz.results31, go_sem, *]) rfl ⟨by rw [HS.out, HP.out]; rfl, (HB'.out.setCell (p := ⟨w.heap.size, 0, none⟩) (Nat.le_refl _) _).setCell (p := ⟨w.heap.size, 1, none⟩) (Nat.le_refl _) _⟩
         · generalize min E 138 = M2 at *
           have k2 := qa2 HN'.out
           have k3 := qa2 (qc1 HN'.out (.int .i64 0) (.int .i64 0))
           go_wp2
           refine bodyPost_ret (v := .tuple #[.agg #[.int .i64 0, .int .i64 0], .int .i64 1]) (by simp [results, Tryz.results31, go_sem, *]) rfl ⟨by rw [HS.out, HP.out]; rfl, (HB'.out.setCell (p := ⟨w.heap.size, 0, none⟩) (Nat.le_refl _) _).setCell (p := ⟨w.heap.size, 1, none⟩) (Nat.le_refl _) _⟩
theorem Tryz.infoSt : (Tryz.prog.info? 41).map (fun i => (i.zero, i.size, i.bytes)) = some (some (.agg #[.int .i64 0, .int .i64 0]), 2, 16) := by kernel_rfl
theorem q1h (w : World) (x y : Value) (ty : TypeId) : ∀ j u, [x, y][j]? = some u → (w.alloc (.cells #[x, y] ty)).cell? ((⟨w.heap.size, 0, none⟩ : Addr).add j) = some u :=
 World.news_of_block (heap_alloc_new w _)
theorem q1g (x y : Int) : ∀ u ∈ [Value.int .i64 x, .int .i64 y], u.oneCell' = true := by
 intro u hu
 simp only [List.mem_cons, List.not_mem_nil, or_false] at hu
 rcases hu with rfl | rfl <;> rfl
theorem qmr (g o cap : Nat) (zs : List Int) (w : World) (hg : g < w.heap.size) (hc : ∀ i, i < zs.length → w.cell? ⟨g, o + i, none⟩ = some (.int .i64 (zs.getD i 0))) (hcap : zs.length ≤ cap) (hcp : cap ≤ 9223372036854775807) (hl : zs.length ≤ 1000000) :
    Calls Tryz.prog 13 #[.slice (some ⟨g, o, none⟩) zs.length cap] w fun e w' => ∃ v, e = .returned v ∧ w'.ownsRow w.heap.size 41 2 v (qca zs).length (stc (qca zs)) ∧ Below w.heap.size w w' := by
 obtain ⟨i0, hi, hz0, hz1, hz2⟩ := info_parts Tryz.infoSt
 have HST : Hid (∀ W i, Below w.heap.size w W → i < zs.length → Calls Tryz.prog 31 #[.slice (some ⟨g, o, none⟩) zs.length cap, .int .i64 ((i : Nat) : Int)] W fun e w' => e = .returned (.tuple #[sv (qfx zs i), .int .i64 (qdn zs i : Int)]) ∧ Below W.heap.size W w') := fun W i hb hlt => qsz g o cap zs i W (Nat.lt_of_lt_of_le hg hb.size) (fun j hj => by rw [hb.cell (p := ⟨g, o + j, none⟩) hg]; exact hc j hj) hcap hcp hl hlt
 clear hc
 go_enter Tryz.func13, Tryz.ntmps13
 go_wp2
 go_loopw [3, 4] (fun v a wr => ∃ k : Nat, a = .int .i64 ((stK zs k).2 : Int) ∧ wr.ownsRow w.heap.size 41 2 v (stK zs k).1.length (stc (stK zs k).1) ∧ Below w.heap.size w wr) (fun _ a _ => zs.length - (intOf a).toNat)
 case atStart => exact ⟨0, rfl, World.ownsRow_nil _ _ _ _, Below.refl _ _⟩
 case round =>
  obtain ⟨k, rfl, hO, hB⟩ := hrel
  obtain ⟨f1, f2, f3⟩ := qie zs k
  by_cases hlt : (stK zs k).2 < zs.length
  · have HK : Hid (stK zs (k + 1) = _) := qk5 hlt
    have HCL : Hid (Calls _ _ _ _ _) := HST.out wr (stK zs k).2 hB hlt
    have hp1 := qin zs (stK zs k).2
    have hp2 := qlk hlt
    generalize (stK zs k).2 = i at *
    generalize (stK zs k).1 = acc at *
    generalize qfx zs i = S at *
    generalize qdn zs i = P at *
    obtain ⟨sy, mo⟩ := S
    unfold sv at HCL
    simp only at HCL
    have hii : (i : Int) < (zs.length : Int) := by omega
    have hsz := hB.size
    have HO : Hid (wr.ownsRow w.heap.size 41 2 _ acc.length (stc acc)) := hO
    have HB : Hid (Below w.heap.size w wr) := hB
    clear hO hB HST f2
    go_wp2_with fail
    refine (Hid.out HCL : Calls _ _ _ _ _).mono ?_
    rintro e w1 ⟨rfl, hb1⟩
    have HO1 : Hid ((w1.alloc (.cells #[.int .i64 sy, .int .i64 mo] 41)).ownsRow w.heap.size 41 2 _ acc.length (stc acc)) := (qtl HO.out hb1).alloc _
    have HB1 : Hid (Below w.heap.size w (w1.alloc (.cells #[.int .i64 sy, .int .i64 mo] 41))) := (HB.out.trans (hb1.mono hsz)).alloc (Nat.le_trans hsz hb1.size) _
    have hsz1 : w.heap.size ≤ w1.heap.size := Nat.le_trans hsz hb1.size
    have h2n := q1h (w1.alloc (.cells #[.int .i64 sy, .int .i64 mo] 41)) (.int .i64 sy) (.int .i64 mo) 41
    rw [World.size_alloc] at h2n
    have HN2 : Hid _ := h2n
    clear h2n hb1 HCL HO HB
    go_wp2_with (at_builtin; refine wpList_append_own _ rfl _ _ 37 rfl w.heap.size 41 i0 (.agg #[.int .i64 0, .int .i64 0]) 2 16 Tryz.underlying37 hi hz0 hz1 hz2 rfl (by decide) _ _ _ rfl (HO1.out.alloc _) ⟨w1.heap.size + 1, 0, none⟩ 1 1 [.int .i64 sy, .int .i64 mo] rfl rfl HN2.out (q1g _ _) ?c3 ?c4 ?c5 ?_)
    case c3 => unfold maxLen; omega
    case c4 => omega
    case c5 => rw [World.size_alloc, World.size_alloc]; omega
    intro v8 w8 hown hg8 _
    have HO8 : Hid (w8.ownsRow w.heap.size 41 2 v8 (acc.length + 1) (stc (acc ++ [⟨sy, mo⟩]))) := by unfold Hid; rw [qyl]; exact hown
    have HB8 : Hid (Below w.heap.size w w8) := (HB1.out.alloc (by rw [World.size_alloc]; omega) _).grown hg8 (by rw [World.size_alloc, World.size_alloc]; omega) (fun q hq => (HO1.out.lt q hq).1)
    clear hown hg8 HO1 HB1 HN2
    go_wp2
    go_roundw
    case rel => exact ⟨k + 1, by rw [HK.out]; go_num, by rw [HK.out, List.length_append]; exact HO8.out, HB8.out⟩
    case measure => simp [intOf]; omega
  · have HA : Hid (_ = _) := q1z hlt
    rw [HA.out] at hO
    clear HA
    generalize (stK zs k).2 = i at *
    have hii : ¬ (i : Int) < (zs.length : Int) := by omega
    go_wp2
    go_ret
    exact ⟨_, rfl, hO, hB⟩
end Go.Proofs.YthkppipdflmekaaGreat
