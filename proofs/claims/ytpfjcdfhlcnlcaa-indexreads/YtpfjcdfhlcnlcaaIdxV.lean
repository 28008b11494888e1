/- An index in memory. -/
import Derived.Test.YtpfjcdfhlcnlcaaIdxM
import Derived.Test.YtpfjcdfhlcnlcaaMpG
import Derived.Test.YtpfjcdfhlcnlcaaKeep
namespace Go.Proofs.Ytpfjcdfhlcnlcaa
open Go.RowKit Go.Maps
set_option linter.unusedVariables false
set_option linter.unusedSimpArgs false

theorem mkB_toList (l : List UInt8) : (mkB l).toList = l := by rw [ByteArray.toList_eq]; rfl
theorem mkB_one {a b : List UInt8} (h : mkB a = mkB b) : a = b := by rw [← mkB_toList a, h, mkB_toList]
theorem mkB_beq (a b : List UInt8) : ((mkB a).toList == (mkB b).toList) = decide (a = b) := by
  rw [mkB_toList, mkB_toList]
  by_cases h : a = b
  · subst h; simp
  · rw [decide_eq_false h, beq_eq_false_iff_ne]; exact h
open Classical in
/-- What stands in a map, by the values alone. -/
noncomputable def El.of {α : Type} (ev : α → Value) (dv : α → DataW Unit) (hv : ∀ a b, ev a = ev b → a = b) (hd : ∀ a b, dv a = dv b → a = b) : El α where
  ev := ev
  dv := dv
  el := fun v => if h : ∃ a, v = ev a then some (dv h.choose, []) else none
  el_ev := fun a => by
    have h : ∃ b, ev a = ev b := ⟨a, rfl⟩
    rw [dif_pos h, hv _ _ h.choose_spec.symm]
  el_some := fun {v y} h => by
    split at h
    · rename_i h'
      cases h
      exact ⟨h'.choose, h'.choose_spec, rfl⟩
    · cases h
  dinj := fun {a b} h => hd a b h
def plV (p : Pl) : Value := .agg #[.string (mkB p.k), .string (mkB p.h.n), .int .i64 p.h.m, .int .u32 p.h.c, .int .i64 p.h.p, .int .i64 p.h.s, .int .i64 p.h.a]
def plD (p : Pl) : DataW Unit := .agg [.lit (.string p.k), .lit (.string p.h.n), .lit (.int .i64 p.h.m), .lit (.int .i64 p.h.c), .lit (.int .i64 p.h.p), .lit (.int .i64 p.h.s), .lit (.int .i64 p.h.a)]
theorem plV_inj (a b : Pl) (h : plV a = plV b) : a = b := by
  obtain ⟨k, n, m, c, p, s, t⟩ := a
  obtain ⟨k', n', m', c', p', s', t'⟩ := b
  simp only [plV, Value.agg.injEq, Array.mk.injEq, List.cons.injEq, Value.string.injEq, Value.int.injEq, true_and, and_true] at h
  obtain ⟨h1, h2, h3, h4, h5, h6, h7⟩ := h
  rw [mkB_one h1, mkB_one h2, h3, h4, h5, h6, h7]
theorem plD_inj (a b : Pl) (h : plD a = plD b) : a = b := by
  obtain ⟨k, n, m, c, p, s, t⟩ := a
  obtain ⟨k', n', m', c', p', s', t'⟩ := b
  simp only [plD, DataW.agg.injEq, List.cons.injEq, DataW.lit.injEq, Lit.string.injEq, Lit.int.injEq, true_and, and_true] at h
  obtain ⟨h1, h2, h3, h4, h5, h6, h7⟩ := h
  rw [h1, h2, h3, h4, h5, h6, h7]
noncomputable def EP : El Pl := El.of plV plD plV_inj plD_inj
noncomputable def EN : El Int := El.of (fun n => .int .i64 n) (fun n => .lit (.int .i64 n)) (fun a b h => by injection h) (fun a b h => by injection h with h; injection h)
theorem EP_ev (p : Pl) : EP.ev p = plV p := rfl
theorem EN_ev (n : Int) : EN.ev n = .int .i64 n := rfl
theorem zeroPl (w : World) : (zeroValue 43).run Try.prog w = .ok (.agg #[.string ⟨#[]⟩, .string ⟨#[]⟩, .int .i64 0, .int .u32 0, .int .i64 0, .int .i64 0, .int .i64 0]) w := by kernel_rfl
theorem zeroHd (w : World) : (zeroValue 38).run Try.prog w = .ok (.agg #[.string ⟨#[]⟩, .int .i64 0, .int .u32 0, .int .i64 0, .int .i64 0, .int .i64 0]) w := by kernel_rfl
theorem zeroIx (w : World) : (zeroValue 27).run Try.prog w = .ok (.agg #[.map none, .map none]) w := by kernel_rfl
theorem zeroIn (w : World) : (zeroValue 3).run Try.prog w = .ok (.int .i64 0) w := by kernel_rfl

/-- Heads as cells. -/
def hdC (h : Hd) : List Value := [.string (mkB h.n), .int .i64 h.m, .int .u32 h.c, .int .i64 h.p, .int .i64 h.s, .int .i64 h.a]
def hdsC (l : List Hd) : List Value := l.flatMap hdC
theorem hdsC_len : ∀ l : List Hd, (hdsC l).length = l.length * 6
  | [] => rfl
  | x :: l => by
    have := hdsC_len l
    simp only [hdsC, List.flatMap_cons, List.length_append, List.length_cons] at this ⊢
    rw [this]; simp [hdC]; omega
theorem hdsC_at : ∀ (l : List Hd) (i : Nat) (x : Hd), l[i]? = some x → ∀ j, j < 6 → (hdsC l)[i * 6 + j]? = (hdC x)[j]?
  | [], i, x, h, j, hj => by simp at h
  | y :: l, 0, x, h, j, hj => by
    simp at h; subst h
    simp only [hdsC, List.flatMap_cons]
    rw [List.getElem?_append_left (by simp [hdC]; omega)]
    simp
  | y :: l, i + 1, x, h, j, hj => by
    simp at h
    have := hdsC_at l i x h j hj
    simp only [hdsC, List.flatMap_cons] at this ⊢
    rw [List.getElem?_append_right (by simp [hdC]; omega)]
    rw [← this]
    congr 1
    simp [hdC]; omega
/-- A slice that shows heads; it lies in K. -/
def HV (w : World) (K : Nat → Prop) (v : Value) (l : List Hd) : Prop :=
  ∃ a cap, v = .slice a l.length cap ∧ l.length ≤ cap ∧ (l ≠ [] → ∃ g o, a = some ⟨g, o, none⟩ ∧ K g ∧ g < w.heap.size ∧ ∀ j u, (hdsC l)[j]? = some u → w.cell? ⟨g, o + j, none⟩ = some u)
theorem HV.kept {w w' : World} {K K' : Nat → Prop} {v : Value} {l : List Hd} (h : HV w K v l) (hk : Keeps K w w') (hK : ∀ k, K k → K' k) : HV w' K' v l := by
  obtain ⟨a, cap, rfl, hc, hf⟩ := h
  refine ⟨a, cap, rfl, hc, fun hne => ?_⟩
  obtain ⟨g, o, rfl, hg, hl, hh⟩ := hf hne
  exact ⟨g, o, rfl, hK _ hg, Nat.lt_of_lt_of_le hl hk.size, fun j u hu => by rw [World.cell?_of_block (a := ⟨g, o + j, none⟩) (hk.block g hg)]; exact hh j u hu⟩
theorem HV.at {w : World} {K : Nat → Prop} {a : Option Addr} {n cap : Nat} {l : List Hd} (h : HV w K (.slice a n cap) l) {i : Nat} {x : Hd} (hi : l[i]? = some x) :
    ∃ g o, a = some ⟨g, o, none⟩ ∧ K g ∧ n = l.length ∧ n ≤ cap ∧ w.cell? ⟨g, o + i * 6, none⟩ = some (.string (mkB x.n)) ∧ w.cell? ⟨g, o + i * 6 + 1, none⟩ = some (.int .i64 x.m) ∧ w.cell? ⟨g, o + i * 6 + 2, none⟩ = some (.int .u32 x.c) ∧ w.cell? ⟨g, o + i * 6 + 3, none⟩ = some (.int .i64 x.p) ∧ w.cell? ⟨g, o + i * 6 + 4, none⟩ = some (.int .i64 x.s) ∧ w.cell? ⟨g, o + i * 6 + 5, none⟩ = some (.int .i64 x.a) := by
  obtain ⟨a', cap', e, hc, hf⟩ := h
  injection e with e1 e2 e3
  subst e1 e3
  obtain ⟨g, o, rfl, hg, _, hh⟩ := hf (fun q => by rw [q] at hi; simp at hi)
  have key : ∀ j u, j < 6 → (hdC x)[j]? = some u → w.cell? ⟨g, o + i * 6 + j, none⟩ = some u := fun j u hj hu => by
    rw [Nat.add_assoc]; exact hh _ _ (by rw [hdsC_at l i x hi j hj]; exact hu)
  exact ⟨g, o, rfl, hg, e2, by omega, key 0 _ (by omega) rfl, key 1 _ (by omega) rfl, key 2 _ (by omega) rfl, key 3 _ (by omega) rfl, key 4 _ (by omega) rfl, key 5 _ (by omega) rfl⟩
/-- An index with its two maps. -/
structure IXs (w : World) (x : Nat) (K : Nat → Prop) (b1 b2 : Nat) (ps : List (List UInt8)) (F : As Pl) : Prop where
  Kb : ∀ k, K k → k < w.heap.size
  kx : ¬ K x
  k1 : ¬ K b1
  k2 : ¬ K b2
  ne : b1 ≠ b2
  cell : w.heap[x]? = some (.cells #[.map (some b1), .map (some b2)] 27 (0, 0))
  m1 : GM EN 0 w b1 (pkA ps)
  m2 : GM EP plZ w b2 F
/-- An index; the zero one has no maps. -/
def IX (w : World) (x : Nat) (K : Nat → Prop) (ps : List (List UInt8)) (F : As Pl) : Prop :=
  (∃ b1 b2, IXs w x K b1 b2 ps F) ∨ ((∀ k, K k → k < w.heap.size) ∧ ¬ K x ∧ w.heap[x]? = some (.cells #[.map none, .map none] 27 (0, 0)) ∧ ps = [] ∧ F = [])
theorem GM.ne_cell {α : Type} {E : El α} {z : α} {w : World} {b x : Nat} {F : As α} {c : Array Value} {T : TypeId} {f : Nat × Nat} (h : GM E z w b F) (hc : w.heap[x]? = some (.cells c T f)) : b ≠ x := by
  obtain ⟨es, cl, hm⟩ := h.isMap
  intro e; subst e
  rw [hm] at hc; cases hc
theorem IXs.c0 {w : World} {x : Nat} {K : Nat → Prop} {b1 b2 : Nat} {ps : List (List UInt8)} {F : As Pl} (h : IXs w x K b1 b2 ps F) : w.cell? ⟨x, 0, none⟩ = some (.map (some b1)) := (cell_of_row _ _ _ _ _ _ h.cell).trans rfl
theorem IXs.c1 {w : World} {x : Nat} {K : Nat → Prop} {b1 b2 : Nat} {ps : List (List UInt8)} {F : As Pl} (h : IXs w x K b1 b2 ps F) : w.cell? ⟨x, 1, none⟩ = some (.map (some b2)) := (cell_of_row _ _ _ _ _ _ h.cell).trans rfl
theorem IXs.lt {w : World} {x : Nat} {K : Nat → Prop} {b1 b2 : Nat} {ps : List (List UInt8)} {F : As Pl} (h : IXs w x K b1 b2 ps F) : x < w.heap.size := (Array.getElem?_eq_some_iff.1 h.cell).1
theorem IXs.nd {w : World} {x : Nat} {K : Nat → Prop} {b1 b2 : Nat} {ps : List (List UInt8)} {F : As Pl} (h : IXs w x K b1 b2 ps F) : ps.Nodup := by
  have := h.m1.kd; unfold KdA at this; rw [pkA_keys] at this; exact this
/-- The world has turned in none of the index's blocks; others hold more. -/
theorem IXs.kept {w w' : World} {x : Nat} {K K' : Nat → Prop} {b1 b2 : Nat} {ps : List (List UInt8)} {F : As Pl} (h : IXs w x K b1 b2 ps F)
    (hb : ∀ k, k < w.heap.size → ¬ K k → w'.heap[k]? = w.heap[k]?) (hK' : ∀ k, K' k → k < w'.heap.size ∧ (K k ∨ w.heap.size ≤ k)) : IXs w' x K' b1 b2 ps F := by
  have hn : ∀ k, k < w.heap.size → ¬ K k → ¬ K' k := fun k hk h1 h2 => by rcases (hK' k h2).2 with h3 | h3; exact h1 h3; omega
  exact ⟨fun k hk => (hK' k hk).1, hn _ h.lt h.kx, hn _ h.m1.lt h.k1, hn _ h.m2.lt h.k2, h.ne, (hb _ h.lt h.kx).trans h.cell, h.m1.kept (hb _ h.m1.lt h.k1), h.m2.kept (hb _ h.m2.lt h.k2)⟩
theorem IXs.below {w w' : World} {x : Nat} {K : Nat → Prop} {b1 b2 : Nat} {ps : List (List UInt8)} {F : As Pl} (h : IXs w x K b1 b2 ps F) (hb : Below w.heap.size w w') : IXs w' x K b1 b2 ps F :=
  h.kept (fun k hk _ => hb.block k hk) (fun k hk => ⟨Nat.lt_of_lt_of_le (h.Kb k hk) hb.size, .inl hk⟩)
theorem IX.kept {w w' : World} {x : Nat} {K K' : Nat → Prop} {ps : List (List UInt8)} {F : As Pl} (h : IX w x K ps F)
    (hb : ∀ k, k < w.heap.size → ¬ K k → w'.heap[k]? = w.heap[k]?) (hK' : ∀ k, K' k → k < w'.heap.size ∧ (K k ∨ w.heap.size ≤ k)) : IX w' x K' ps F := by
  rcases h with ⟨b1, b2, h⟩ | ⟨h1, h2, h3, h4⟩
  · exact .inl ⟨b1, b2, h.kept hb hK'⟩
  · have hl := (Array.getElem?_eq_some_iff.1 h3).1
    refine .inr ⟨fun k hk => (hK' k hk).1, fun hk => ?_, (hb _ hl h2).trans h3, h4⟩
    rcases (hK' _ hk).2 with h5 | h5
    · exact h2 h5
    · omega
theorem IX.below {w w' : World} {x : Nat} {K : Nat → Prop} {ps : List (List UInt8)} {F : As Pl} (h : IX w x K ps F) (hb : Below w.heap.size w w') : IX w' x K ps F := by
  rcases h with ⟨b1, b2, h⟩ | ⟨h1, h2, h3, h4⟩
  · exact .inl ⟨b1, b2, h.below hb⟩
  · exact .inr ⟨fun k hk => Nat.lt_of_lt_of_le (h1 k hk) hb.size, h2, (hb.block _ (Array.getElem?_eq_some_iff.1 h3).1).trans h3, h4⟩
theorem IX.kd {w : World} {x : Nat} {K : Nat → Prop} {ps : List (List UInt8)} {F : As Pl} (h : IX w x K ps F) : KdA F ∧ ps.Nodup := by
  rcases h with ⟨b1, b2, h⟩ | ⟨_, _, _, rfl, rfl⟩
  · exact ⟨h.m2.kd, h.nd⟩
  · exact ⟨KdA.nil, List.nodup_nil⟩
theorem IX.Kb {w : World} {x : Nat} {K : Nat → Prop} {ps : List (List UInt8)} {F : As Pl} (h : IX w x K ps F) : ∀ k, K k → k < w.heap.size := by
  rcases h with ⟨b1, b2, h⟩ | ⟨h, _⟩
  · exact h.Kb
  · exact h
end Go.Proofs.Ytpfjcdfhlcnlcaa
