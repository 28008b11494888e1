/- Contract of layer 7's awake; the law of Steps. -/
import Derived.Test.YthkppipdflmekaaGreatQDSt
import Derived.Test.YthkppipdflmekaaGreatQSto
set_option maxRecDepth 100000
set_option maxHeartbeats 1000000
namespace Go.Proofs.YthkppipdflmekaaGreat
open Go.RowKit
set_option linter.unusedVariables false
theorem awS7 : qca [0, 0, 0, 5, 5, 5, 5, 5] = [⟨17, 0⟩, ⟨5, 0⟩, ⟨16, 1⟩] := by rfl
theorem awT7 {r : ByteArray} (h : r.data.toList = stoF (⟨#[97, 98]⟩ : ByteArray).data.toList) : r = ⟨#[1, 2, 0, 253, 255, 97, 98]⟩ := qhc (by rw [h]; decide)
def SR (w : World) (v : Value) (l : List Stp) : Prop := ∃ a cap, v = .slice a l.length cap ∧ ∀ i s, l[i]? = some s → ∃ g, a = some ⟨g, 0, none⟩ ∧ g < w.heap.size ∧ w.cell? ⟨g, i * 2, none⟩ = some (.int .i64 s.sym) ∧ w.cell? ⟨g, i * 2 + 1, none⟩ = some (.int .i64 s.more)
theorem SR.own {w : World} {B : Nat} {ty : TypeId} {v : Value} {l : List Stp} (h : w.ownsRow B ty 2 v l.length (stc l)) : SR w v l := by
 have hlt := h.lt
 have h' := h
 rcases h.2 with ⟨rfl, h0⟩ | ⟨g, cap, cur, rfl, _⟩
 · have : l = [] := List.length_eq_zero_iff.1 h0
   subst this
   exact ⟨none, 0, rfl, fun i s hi => by simp at hi⟩
 · refine ⟨_, cap, rfl, fun i s hi => ⟨g, rfl, (hlt g rfl).2, ?_⟩⟩
   have hl : i < l.length := (List.getElem?_eq_some_iff.1 hi).1
   have hs := q0r l i s hi
   have hlen := q1y l
   exact ⟨by rw [h'.cellAt (i * 2) (by omega), hs.1], by rw [h'.cellAt (i * 2 + 1) (by omega), hs.2]⟩
theorem SR.below {w w' : World} {v : Value} {l : List Stp} (h : SR w v l) (hb : Below w.heap.size w w') : SR w' v l := by
 obtain ⟨a, cap, rfl, hc⟩ := h
 refine ⟨a, cap, rfl, fun i s hi => ?_⟩
 obtain ⟨g, rfl, hg, h1, h2⟩ := hc i s hi
 exact ⟨g, rfl, Nat.lt_of_lt_of_le hg hb.size, by rw [hb.cell (p := ⟨g, i * 2, none⟩) hg]; exact h1, by rw [hb.cell (p := ⟨g, i * 2 + 1, none⟩) hg]; exact h2⟩
theorem qg1 (w : World) : Calls Tryz.prog 6 #[] w fun e w' => e = .returned (.bool true) ∧ Below w.heap.size w w' := by
 have HST : Hid (Calls _ _ _ _ _) := qmr w.heap.size 0 8 [0, 0, 0, 5, 5, 5, 5, 5] (w.alloc (.cells #[.int .i64 0, .int .i64 0, .int .i64 0, .int .i64 5, .int .i64 5, .int .i64 5, .int .i64 5, .int .i64 5] 3)) (by rw [World.size_alloc]; omega) (fun i hi => by
  rw [Nat.zero_add, cell_of_row _ _ _ _ _ _ (heap_alloc_new w _)]
  have : i < 8 := hi
  rcases (show i = 0 ∨ i = 1 ∨ i = 2 ∨ i = 3 ∨ i = 4 ∨ i = 5 ∨ i = 6 ∨ i = 7 by omega) with rfl | rfl | rfl | rfl | rfl | rfl | rfl | rfl <;> rfl) (by decide) (by decide) (by decide)
 rw [awS7] at HST
 have HB0 : Hid (Below w.heap.size w (w.alloc (.cells #[.int .i64 0, .int .i64 0, .int .i64 0, .int .i64 5, .int .i64 5, .int .i64 5, .int .i64 5, .int .i64 5] 3))) := (Below.refl _ w).alloc (Nat.le_refl _) _
 go_enter Tryz.func6, Tryz.ntmps6
 go_wp2_with fail
 refine (Hid.out HST : Calls _ _ _ _ _).mono ?_
 rintro e w1 ⟨v1, rfl, hO1, hb1⟩
 have HB1 : Hid (Below w.heap.size w w1) := HB0.out.trans (hb1.mono HB0.out.size)
 have hS1 : SR w1 v1 [⟨17, 0⟩, ⟨5, 0⟩, ⟨16, 1⟩] := SR.own hO1
 clear HST HB0 hb1 hO1
 go_wp2_with fail
 refine (qic ⟨#[97, 98]⟩ w1 (by decide)).mono ?_
 rintro e w2 ⟨⟨r, rfl, hr⟩, hb2⟩
 obtain rfl := awT7 hr
 have HB2 : Hid (Below w.heap.size w w2) := HB1.out.trans (hb2.mono HB1.out.size)
 obtain ⟨a, cap, rfl, hc⟩ := hS1.below hb2
 obtain ⟨g, rfl, hg, c1, c2⟩ := hc 2 ⟨16, 1⟩ rfl
 simp only [Nat.reduceMul, Nat.reduceAdd] at c1 c2
 clear hb2 hr hS1 hc HB1
 go_wp2
 go_ret
 exact ⟨rfl, HB2.out⟩
end Go.Proofs.YthkppipdflmekaaGreat
