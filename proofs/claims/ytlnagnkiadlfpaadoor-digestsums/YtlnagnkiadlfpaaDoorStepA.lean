/- The document's step: its blocks, and the bits of choice and of the most. -/
import Derived.Test.YtlnagnkiadlfpaaDoorWordN
import Derived.Test.YtlnagnkiadlfpaaDoorAdd
namespace Go.Proofs.YtlnagnkiadlfpaaDoor
open Go.RowKit
set_option linter.unusedVariables false

/-- The blocks of a call: k's, the word's, that of choice, that of the most. -/
def ST (w : World) (k x : Nat) (fc fm : Nat → Bool) (wr : World) : Prop :=
  wr.heap[w.heap.size]? = some (.cells (bw (bt k)) 33 (0, 0)) ∧ wr.heap[w.heap.size + 1]? = some (.cells (bw (bt x)) 33 (0, 0)) ∧
  wr.heap[w.heap.size + 1 + 1]? = some (.cells (bw fc) 33 (0, 0)) ∧ wr.heap[w.heap.size + 1 + 1 + 1]? = some (.cells (bw fm) 33 (0, 0)) ∧ Below w.heap.size w wr
def w4 (w : World) (a b c d : Array Value) : World := (((w.alloc (.cells a 33)).alloc (.cells b 33)).alloc (.cells c 33)).alloc (.cells d 33)
theorem w4_0 (w : World) (a b c d : Array Value) : (w4 w a b c d).heap[w.heap.size]? = some (.cells a 33 (0, 0)) := by
  unfold w4
  rw [heap_alloc_old _ _ (by simp <;> omega), heap_alloc_old _ _ (by simp <;> omega)]; exact heap_alloc2_old w _ _
theorem w4_1 (w : World) (a b c d : Array Value) : (w4 w a b c d).heap[w.heap.size + 1]? = some (.cells b 33 (0, 0)) := by
  unfold w4
  rw [heap_alloc_old _ _ (by simp <;> omega), heap_alloc_old _ _ (by simp)]; exact heap_alloc2_new w _ _
theorem w4_2 (w : World) (a b c d : Array Value) : (w4 w a b c d).heap[w.heap.size + 1 + 1]? = some (.cells c 33 (0, 0)) := by
  have := heap_alloc2_old ((w.alloc (.cells a 33)).alloc (.cells b 33)) (.cells c 33) (.cells d 33)
  rw [World.size_alloc, World.size_alloc] at this
  exact this
theorem w4_3 (w : World) (a b c d : Array Value) : (w4 w a b c d).heap[w.heap.size + 1 + 1 + 1]? = some (.cells d 33 (0, 0)) := by
  have := heap_alloc2_new ((w.alloc (.cells a 33)).alloc (.cells b 33)) (.cells c 33) (.cells d 33)
  rw [World.size_alloc, World.size_alloc] at this
  exact this
theorem w4_below (w : World) (a b c d : Array Value) : Below w.heap.size w (w4 w a b c d) :=
  ((((Below.refl _ w).alloc (Nat.le_refl _) _).alloc (by simp) _).alloc (by simp <;> omega) _).alloc (by simp <;> omega) _
/-- Both stores of noughts. -/
def w4z (w : World) (a b : Array Value) : World := ((w4 w a b zw zw).setRow (w.heap.size + 1 + 1) (bw fun _ => false)).setRow (w.heap.size + 1 + 1 + 1) (bw fun _ => false)
theorem ST.start (w : World) (k x : Nat) : ST w k x (fun _ => false) (fun _ => false) (w4z w (bw (bt k)) (bw (bt x))) := by
  unfold w4z
  refine ⟨?_, ?_, ?_, ?_, below_setRow (below_setRow (w4_below w _ _ _ _) (by omega) _) (by omega) _⟩
  · rw [setRow_other _ _ _ _ (by omega), setRow_other _ _ _ _ (by omega)]; exact w4_0 w _ _ _ _
  · rw [setRow_other _ _ _ _ (by omega), setRow_other _ _ _ _ (by omega)]; exact w4_1 w _ _ _ _
  · rw [setRow_other _ _ _ _ (by omega)]; exact setRow_heap _ _ _ _ _ _ (w4_2 w _ _ _ _)
  · exact setRow_heap _ _ _ _ _ _ (by rw [setRow_other _ _ _ _ (by omega)]; exact w4_3 w _ _ _ _)
theorem ST.store {w wr : World} {k x : Nat} {fc fm : Nat → Bool} (h : ST w k x fc fm wr) (j : Nat) (u v : Bool) : ST w k x (updB fc j u) (updB fm j v) ((wr.setCell ⟨w.heap.size + 1 + 1, j, none⟩ (.bool u)).setCell ⟨w.heap.size + 1 + 1 + 1, j, none⟩ (.bool v)) := by
  obtain ⟨h0, h1, h2, h3, h4⟩ := h
  refine ⟨?_, ?_, ?_, ?_, (h4.setCell (by show w.heap.size ≤ w.heap.size + 1 + 1; omega) _).setCell (by show w.heap.size ≤ w.heap.size + 1 + 1 + 1; omega) _⟩
  · rw [heap_setCell_other _ _ _ _ (by simp <;> omega), heap_setCell_other _ _ _ _ (by simp <;> omega)]; exact h0
  · rw [heap_setCell_other _ _ _ _ (by simp <;> omega), heap_setCell_other _ _ _ _ (by simp)]; exact h1
  · rw [heap_setCell_other _ _ _ _ (by simp), heap_setCell_same _ _ _ _ _ _ h2, bw_upd]
  · rw [heap_setCell_same _ _ _ _ _ _ (by rw [heap_setCell_other _ _ _ _ (by simp)]; exact h3), bw_upd]
theorem ST.congr {w wr : World} {k x : Nat} {fc fm gc gm : Nat → Bool} (h : ST w k x fc fm wr) (e : bw fc = bw gc) (e' : bw fm = bw gm) : ST w k x gc gm wr := ⟨h.1, h.2.1, by rw [← e]; exact h.2.2.1, by rw [← e']; exact h.2.2.2.1, h.2.2.2.2⟩

def chF (s : S8) : Nat → Bool := fun i => bt s.e i && bt s.f i || !bt s.e i && bt s.g i
def mjF (s : S8) : Nat → Bool := fun i => bt s.a i && bt s.b i || bt s.a i && bt s.c i || bt s.b i && bt s.c i
theorem chF_eq (s : S8) (h : s.ok) : bl (chF s) = bl (bt (cho s.e s.f s.g)) := bl_congr fun i hi => (cho_bit _ _ _ i h.2.2.2.2.1 hi).symm
theorem mjF_eq (s : S8) : bl (mjF s) = bl (bt (maj s.a s.b s.c)) := bl_congr fun i hi => (maj_bit _ _ _ i).symm
theorem words_cell {w : World} {g : Nat} {xs : List Nat} (h : WordsAt w g xs) (k i : Nat) (hk : k < xs.length) (hi : i < 32) : w.cell? ⟨g, k * 32 + i, none⟩ = some (.bool (bt (xs.getD k 0) i)) :=
  h k hk i _ (bl_at _ _ hi)
/-- What stands while the sums are made: the words that came, and the blocks of the call. -/
def SR (w : World) (g : Nat) (s : S8) (k x c m : Nat) (wr : World) : Prop := WordsAt wr g s.list ∧ ST w k x (bt c) (bt m) wr ∧ g < w.heap.size
theorem ST.lt {w wr : World} {k x : Nat} {fc fm : Nat → Bool} (h : ST w k x fc fm wr) : w.heap.size + 1 + 1 + 1 < wr.heap.size := by
  rcases Nat.lt_or_ge (w.heap.size + 1 + 1 + 1) wr.heap.size with hl | hl
  · exact hl
  · have := h.2.2.2.1; rw [Array.getElem?_eq_none hl] at this; cases this
theorem SR.below {w wr w1 : World} {g : Nat} {s : S8} {k x c m : Nat} {B : Nat} (h : SR w g s k x c m wr) (hb : Below B wr w1) (hB : w.heap.size + 1 + 1 + 1 < B) : SR w g s k x c m w1 := by
  obtain ⟨h1, ⟨a0, a1, a2, a3, a4⟩, h3⟩ := h
  exact ⟨h1.below hb (by omega), ⟨by rw [hb.block _ (by omega)]; exact a0, by rw [hb.block _ (by omega)]; exact a1, by rw [hb.block _ (by omega)]; exact a2, by rw [hb.block _ (by omega)]; exact a3, a4.trans (hb.mono (by omega))⟩, h3⟩
theorem SR.lt {w wr : World} {g : Nat} {s : S8} {k x c m : Nat} (h : SR w g s k x c m wr) : w.heap.size + 1 + 1 + 1 < wr.heap.size := h.2.1.lt
theorem SR.drew {w wr : World} {g : Nat} {s : S8} {k x c m : Nat} (h : SR w g s k x c m wr) : SR w g s k x c m wr.drew := ⟨h.1, ⟨h.2.1.1, h.2.1.2.1, h.2.1.2.2.1, h.2.1.2.2.2.1, h.2.1.2.2.2.2.drew⟩, h.2.2⟩
theorem SR.alloc {w wr : World} {g : Nat} {s : S8} {k x c m : Nat} (h : SR w g s k x c m wr) (o : Obj) : SR w g s k x c m (wr.alloc o) :=
  h.below (B := wr.heap.size) ((Below.refl _ wr).alloc (Nat.le_refl _) _) h.2.1.lt
theorem range_row {w : World} {b : Nat} {f : Nat → Bool} {t : TypeId} {fr : Nat × Nat} (h : w.heap[b]? = some (.cells (bw f) t fr)) : w.rangeAt b 0 (bl f) := fun j v hv => by
  rw [cell_of_row w b (0 + j) _ _ _ h, Nat.zero_add]; unfold bw; rw [List.getElem?_toArray]; exact hv
/-- The same, range by range. -/
theorem SR.held {w wr : World} {g : Nat} {s : S8} {k x c m : Nat} (h : SR w g s k x c m wr) : SR w g s k x c m wr ∧
    wr.rangeAt g 0 (bl (bt s.a)) ∧ wr.rangeAt g 32 (bl (bt s.b)) ∧ wr.rangeAt g 64 (bl (bt s.c)) ∧ wr.rangeAt g 96 (bl (bt s.d)) ∧ wr.rangeAt g 128 (bl (bt s.e)) ∧ wr.rangeAt g 160 (bl (bt s.f)) ∧ wr.rangeAt g 192 (bl (bt s.g)) ∧ wr.rangeAt g 224 (bl (bt s.h)) ∧
    wr.rangeAt w.heap.size 0 (bl (bt k)) ∧ wr.rangeAt (w.heap.size + 1) 0 (bl (bt x)) ∧ wr.rangeAt (w.heap.size + 1 + 1) 0 (bl (bt c)) ∧ wr.rangeAt (w.heap.size + 1 + 1 + 1) 0 (bl (bt m)) :=
  ⟨h, h.1 0 (show 0 < 8 by decide), h.1 1 (show 1 < 8 by decide), h.1 2 (show 2 < 8 by decide), h.1 3 (show 3 < 8 by decide), h.1 4 (show 4 < 8 by decide), h.1 5 (show 5 < 8 by decide), h.1 6 (show 6 < 8 by decide), h.1 7 (show 7 < 8 by decide),
    range_row h.2.1.1, range_row h.2.1.2.1, range_row h.2.1.2.2.1, range_row h.2.1.2.2.2.1⟩
theorem turns_n (x a b c : Nat) (w : World) (hx : x < 4294967296) (ha : 1 ≤ a) (ha' : a ≤ 31) (hb : 1 ≤ b) (hb' : b ≤ 31) (hc : 1 ≤ c) (hc' : c ≤ 31) :
    Calls Tryd.prog 16 #[.agg (bl (bt x)).toArray, .int .i64 (a : Int), .int .i64 (b : Int), .int .i64 (c : Int), .bool false] w fun e w' => e = .returned (.agg (bl (bt (ror x a ^^^ ror x b ^^^ ror x c))).toArray) ∧ Below w.heap.size w w' := by
  have h := turns_any (bt x) a b c false w ha' hb' hc'
  unfold bw at h
  rw [turn3 x a b c hx ha ha' hb hb' hc hc'] at h
  exact h
theorem keepBlock {w w1 : World} {D : Nat} {o : Obj} (hb : Below w.heap.size w w1) (h : w.heap[D]? = some o) : w1.heap[D]? = some o := by
  rw [hb.block D (by rcases Nat.lt_or_ge D w.heap.size with hl | hl; exact hl; rw [Array.getElem?_eq_none hl] at h; cases h)]; exact h
/-- Words that lie there. -/
def WordsIn (w : World) (g : Nat) (xs : List Nat) : Prop := WordsAt w g xs ∧ g < w.heap.size
theorem keepWords {w w1 : World} {g : Nat} {xs : List Nat} (hb : Below w.heap.size w w1) (h : WordsIn w g xs) : WordsIn w1 g xs := ⟨h.1.below hb h.2, Nat.lt_of_lt_of_le h.2 hb.size⟩
theorem bel_new (w : World) (o : Obj) : Below w.heap.size w (w.alloc o) := (Below.refl _ w).alloc (Nat.le_refl _) _
theorem new_zero (w : World) : (w.alloc (.cells zw 33)).heap[w.heap.size]? = some (.cells (bw fun _ => false) 33 (0, 0)) := by rw [← zw_bc]; exact heap_alloc_new _ _
theorem SR.next {w wr w1 : World} {g : Nat} {s : S8} {k x c m : Nat} (h : SR w g s k x c m wr) (hb : Below wr.heap.size wr w1) : SR w g s k x c m w1 := h.below hb h.lt
theorem SR.set {w wr : World} {g : Nat} {s : S8} {k x c m : Nat} {D : Nat} (h : SR w g s k x c m wr) (hD : w.heap.size + 1 + 1 + 1 < D) (f : Nat → Bool) : SR w g s k x c m (wr.setRow D (bw f)) :=
  h.below (B := D) (below_setRow (Below.refl D wr) (Nat.le_refl _) _) hD
theorem SR.at {w wr : World} {g : Nat} {s : S8} {k x c m : Nat} (h : SR w g s k x c m wr) (i off : Nat) (v : Nat) (hi : i < 8) (ho : off = i * 32) (hv : s.list.getD i 0 = v) : wr.rangeAt g off (bl (bt v)) := by
  subst ho; subst hv; exact h.1 i hi
theorem set_at {w : World} {D : Nat} {old : Array Value} {t : TypeId} (f : Nat → Bool) (h : w.heap[D]? = some (.cells old t (0, 0))) : (w.setRow D (bw f)).heap[D]? = some (.cells (bw f) t (0, 0)) := setRow_heap _ _ _ _ _ _ h
theorem lt_of_block {w : World} {D : Nat} {o : Obj} (h : w.heap[D]? = some o) : D < w.heap.size := by
  rcases Nat.lt_or_ge D w.heap.size with hl | hl
  · exact hl
  · rw [Array.getElem?_eq_none hl] at h; cases h
/-- And the first sum lies at D. -/
def SX (w : World) (g : Nat) (s : S8) (k x c m D T : Nat) (wr : World) : Prop := SR w g s k x c m wr ∧ wr.heap[D]? = some (.cells (bw (bt T)) 33 (0, 0)) ∧ w.heap.size + 1 + 1 + 1 < D
theorem SX.drew {w wr : World} {g : Nat} {s : S8} {k x c m D T : Nat} (h : SX w g s k x c m D T wr) : SX w g s k x c m D T wr.drew := ⟨h.1.drew, h.2⟩
theorem SX.next {w wr w1 : World} {g : Nat} {s : S8} {k x c m D T : Nat} (h : SX w g s k x c m D T wr) (hb : Below wr.heap.size wr w1) : SX w g s k x c m D T w1 := ⟨h.1.next hb, keepBlock hb h.2.1, h.2.2⟩
theorem SX.lt {w wr : World} {g : Nat} {s : S8} {k x c m D T : Nat} (h : SX w g s k x c m D T wr) : D < wr.heap.size := lt_of_block h.2.1
theorem SX.set {w wr : World} {g : Nat} {s : S8} {k x c m D T E : Nat} (h : SX w g s k x c m D T wr) (hD : D < E) (f : Nat → Bool) : SX w g s k x c m D T (wr.setRow E (bw f)) :=
  ⟨h.1.set (Nat.lt_trans h.2.2 hD) f, by rw [setRow_other _ _ _ _ (by omega)]; exact h.2.1, h.2.2⟩
/-- And the second at E. -/
def SY (w : World) (g : Nat) (s : S8) (k x c m D T E U : Nat) (wr : World) : Prop := SX w g s k x c m D T wr ∧ wr.heap[E]? = some (.cells (bw (bt U)) 33 (0, 0))
theorem SY.drew {w wr : World} {g : Nat} {s : S8} {k x c m D T E U : Nat} (h : SY w g s k x c m D T E U wr) : SY w g s k x c m D T E U wr.drew := ⟨h.1.drew, h.2⟩
theorem SY.next {w wr w1 : World} {g : Nat} {s : S8} {k x c m D T E U : Nat} (h : SY w g s k x c m D T E U wr) (hb : Below wr.heap.size wr w1) : SY w g s k x c m D T E U w1 := ⟨h.1.next hb, keepBlock hb h.2⟩
theorem add_n (g n cap : Nat) (xs : List Nat) (v : Nat) (w : World) (hx : WordsIn w g xs) (hn : xs.length = n) (hn' : n ≤ 100) (hv : sumW xs = v) :
    Calls Tryd.prog 15 #[.slice (some ⟨g, 0, none⟩) n cap] w fun e w' => e = .returned (.agg (bl (bt v)).toArray) ∧ Below w.heap.size w w' := by
  subst hn; subst hv
  exact add_any g cap xs w hx.1 hx.2 hn'
end Go.Proofs.YtlnagnkiadlfpaaDoor
