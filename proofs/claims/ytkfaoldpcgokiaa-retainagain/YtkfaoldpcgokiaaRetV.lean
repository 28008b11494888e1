/- Snapshots, policies and rows of bools in memory. -/
import Derived.Test.YtkfaoldpcgokiaaRetM
import Derived.Deep.AppendLies
import Derived.Laws.AppendOwnNone
namespace Go.Proofs.Ytkfaoldpcgokiaa
open Go.RowKit
set_option linter.unusedVariables false

/-- A snapshot's three cells. -/
def snC (x : Sn) : List Value := [.string (mkB x.i), .int .i64 x.t, .string (mkB x.g)]
theorem snC_len (x : Sn) : (snC x).length = 3 := rfl
theorem snC_one (x : Sn) : ∀ v ∈ snC x, v.oneCell' = true := by
  intro v hv
  simp only [snC, List.mem_cons, List.not_mem_nil, or_false] at hv
  rcases hv with rfl | rfl | rfl <;> rfl
def snsC (l : List Sn) : List Value := l.flatMap snC
theorem snsC_len : ∀ l : List Sn, (snsC l).length = l.length * 3
  | [] => rfl
  | x :: l => by
    have := snsC_len l
    unfold snsC at this ⊢
    rw [List.flatMap_cons, List.length_append, this, snC_len, List.length_cons]; omega
theorem snsC_append (l m : List Sn) : snsC (l ++ m) = snsC l ++ snsC m := by simp [snsC]
theorem snsC_one (l : List Sn) : ∀ v ∈ snsC l, v.oneCell' = true := by
  intro v hv
  obtain ⟨x, _, hx⟩ := List.mem_flatMap.1 hv
  exact snC_one x v hx
theorem snsC_at : ∀ (l : List Sn) (i : Nat) (x : Sn), l[i]? = some x → ∀ j, j < 3 → (snsC l)[i * 3 + j]? = (snC x)[j]?
  | [], i, x, h, j, hj => by simp at h
  | y :: l, 0, x, h, j, hj => by
    simp at h; subst h
    unfold snsC
    rw [List.flatMap_cons, List.getElem?_append_left (by rw [snC_len]; omega)]
    simp
  | y :: l, i + 1, x, h, j, hj => by
    have := snsC_at l i x (by simpa using h) j hj
    unfold snsC at this ⊢
    rw [List.flatMap_cons, List.getElem?_append_right (by rw [snC_len]; omega), snC_len, show (i + 1) * 3 + j - 3 = i * 3 + j by omega]
    exact this
theorem snsC_take (l : List Sn) (n : Nat) : snsC (l.take n) = (snsC l).take (n * 3) := by
  induction l generalizing n with
  | nil => simp [snsC]
  | cons x l ih =>
    cases n with
    | zero => simp [snsC]
    | succ n =>
      have := ih n
      unfold snsC at this ⊢
      rw [List.take_succ_cons, List.flatMap_cons, List.flatMap_cons, this, List.take_append, List.take_of_length_le (l := snC x) (by rw [snC_len]; omega), snC_len, show (n + 1) * 3 - 3 = n * 3 by omega]
theorem snsC_drop (l : List Sn) (n : Nat) : snsC (l.drop n) = (snsC l).drop (n * 3) := by
  induction l generalizing n with
  | nil => simp [snsC]
  | cons x l ih =>
    cases n with
    | zero => simp [snsC]
    | succ n =>
      have := ih n
      unfold snsC at this ⊢
      rw [List.drop_succ_cons, List.flatMap_cons, this, List.drop_append, snC_len, List.drop_eq_nil_of_le (show (snC x).length ≤ (n + 1) * 3 by rw [snC_len]; omega), List.nil_append, show (n + 1) * 3 - 3 = n * 3 by omega]
/-- v shows the snapshots l, in a block below B. -/
def SV (w : World) (B : Nat) (v : Value) (l : List Sn) : Prop := ∃ a cap, v = .slice a l.length cap ∧ l.length ≤ cap ∧ (a = none → cap = 0) ∧ (l ≠ [] → ∃ g o, a = some ⟨g, o, none⟩ ∧ g < B ∧ g < w.heap.size ∧ ∀ j u, (snsC l)[j]? = some u → w.cell? ⟨g, o + j, none⟩ = some u)
theorem SV.below {w w' : World} {B : Nat} {v : Value} {l : List Sn} (h : SV w B v l) (hb : Below B w w') : SV w' B v l := by
  obtain ⟨a, cap, rfl, hc, hn, hf⟩ := h
  refine ⟨a, cap, rfl, hc, hn, fun hne => ?_⟩
  obtain ⟨g, o, rfl, hg, hgs, hh⟩ := hf hne
  exact ⟨g, o, rfl, hg, Nat.lt_of_lt_of_le hgs hb.size, fun j u hu => by rw [hb.cell (p := ⟨g, o + j, none⟩) hg]; exact hh j u hu⟩
theorem SV.mono {w : World} {B B' : Nat} {v : Value} {l : List Sn} (h : SV w B v l) (hB : B ≤ B') : SV w B' v l := by
  obtain ⟨a, cap, rfl, hc, hn, hf⟩ := h
  refine ⟨a, cap, rfl, hc, hn, fun hne => ?_⟩
  obtain ⟨g, o, rfl, hg, hh⟩ := hf hne
  exact ⟨g, o, rfl, by omega, hh⟩
theorem SV.at {w : World} {B : Nat} {a : Option Addr} {n cap : Nat} {l : List Sn} (h : SV w B (.slice a n cap) l) {i : Nat} {x : Sn} (hi : l[i]? = some x) : ∃ g o, a = some ⟨g, o, none⟩ ∧ g < B ∧ g < w.heap.size ∧ n = l.length ∧ n ≤ cap ∧ w.cell? ⟨g, o + i * 3, none⟩ = some (.string (mkB x.i)) ∧ w.cell? ⟨g, o + i * 3 + 1, none⟩ = some (.int .i64 x.t) ∧ w.cell? ⟨g, o + i * 3 + 2, none⟩ = some (.string (mkB x.g)) := by
  obtain ⟨a', cap', e, hc, _, hf⟩ := h
  injection e with e1 e2 e3
  subst e1 e3
  obtain ⟨g, o, rfl, hg, hgs, hh⟩ := hf (fun q => by rw [q] at hi; simp at hi)
  have hj := fun j (hj : j < 3) => snsC_at l i x hi j hj
  have c := fun j (h3 : j < 3) u (hu : (snC x)[j]? = some u) => hh (i * 3 + j) u (by rw [hj j h3]; exact hu)
  refine ⟨g, o, rfl, hg, hgs, e2, by rw [e2]; exact hc, c 0 (by decide) _ rfl, ?_, ?_⟩
  · rw [Nat.add_assoc]; exact c 1 (by decide) _ rfl
  · rw [Nat.add_assoc]; exact c 2 (by decide) _ rfl
theorem SV.cut {w : World} {B : Nat} {a : Option Addr} {len cap : Nat} {l : List Sn} (h : SV w B (.slice a len cap) l) (n : Nat) (hn : n ≤ len) : SV w B (.slice a n cap) (l.take n) := by
  obtain ⟨a', cap', e, hc, hz, hf⟩ := h
  injection e with e1 e2 e3
  subst e1 e3
  have hl : (l.take n).length = n := by rw [List.length_take]; omega
  refine ⟨a, cap, by rw [hl], by rw [hl]; omega, hz, fun hne => ?_⟩
  obtain ⟨g, o, rfl, hg, hgs, hcl⟩ := hf (fun e => hne (by rw [e]; simp))
  refine ⟨g, o, rfl, hg, hgs, fun j u hu => hcl j u ?_⟩
  rw [snsC_take, List.getElem?_take] at hu
  split at hu
  · exact hu
  · cases hu
/-- v shows the texts l, in a block below B. -/
def TV (w : World) (B : Nat) (v : Value) (l : List (List UInt8)) : Prop := ∃ a cap, v = .slice a l.length cap ∧ l.length ≤ cap ∧ (a = none → cap = 0) ∧ (l ≠ [] → ∃ g o, a = some ⟨g, o, none⟩ ∧ g < B ∧ g < w.heap.size ∧ ∀ i, i < l.length → w.cell? ⟨g, o + i, none⟩ = some (.string (mkB (l.getD i []))))
theorem TV.below {w w' : World} {B : Nat} {v : Value} {l : List (List UInt8)} (h : TV w B v l) (hb : Below B w w') : TV w' B v l := by
  obtain ⟨a, cap, rfl, hc, hn, hf⟩ := h
  refine ⟨a, cap, rfl, hc, hn, fun hne => ?_⟩
  obtain ⟨g, o, rfl, hg, hgs, hh⟩ := hf hne
  exact ⟨g, o, rfl, hg, Nat.lt_of_lt_of_le hgs hb.size, fun i hi => by rw [hb.cell (p := ⟨g, o + i, none⟩) hg]; exact hh i hi⟩
theorem TV.mono {w : World} {B B' : Nat} {v : Value} {l : List (List UInt8)} (h : TV w B v l) (hB : B ≤ B') : TV w B' v l := by
  obtain ⟨a, cap, rfl, hc, hn, hf⟩ := h
  refine ⟨a, cap, rfl, hc, hn, fun hne => ?_⟩
  obtain ⟨g, o, rfl, hg, hh⟩ := hf hne
  exact ⟨g, o, rfl, by omega, hh⟩
theorem TV.at {w : World} {B : Nat} {a : Option Addr} {n cap : Nat} {l : List (List UInt8)} (h : TV w B (.slice a n cap) l) {i : Nat} (hi : i < l.length) : ∃ g o, a = some ⟨g, o, none⟩ ∧ g < B ∧ g < w.heap.size ∧ n = l.length ∧ n ≤ cap ∧ w.cell? ⟨g, o + i, none⟩ = some (.string (mkB (l.getD i []))) := by
  obtain ⟨a', cap', e, hc, _, hf⟩ := h
  injection e with e1 e2 e3
  subst e1 e3
  obtain ⟨g, o, rfl, hg, hgs, hh⟩ := hf (fun q => by rw [q] at hi; simp at hi)
  exact ⟨g, o, rfl, hg, hgs, e2, by rw [e2]; exact hc, hh i hi⟩
theorem TV.nil (w : World) (B : Nat) : TV w B (.slice none 0 0) [] := ⟨none, 0, rfl, Nat.le_refl _, fun _ => rfl, fun h => absurd rfl h⟩
theorem SV.nil (w : World) (B : Nat) : SV w B (.slice none 0 0) [] := ⟨none, 0, rfl, Nat.le_refl _, fun _ => rfl, fun h => absurd rfl h⟩
/-- A policy's value, its tags' slice v. -/
def polV (p : Pol) (v : Value) : Value := .agg #[.int .i64 p.a, .int .i64 p.d, .int .i64 p.k, .int .i64 p.m, v]
/-- What ints and texts can be. -/
structure Pol.ok (p : Pol) : Prop where
  a : -9223372036854775808 ≤ p.a ∧ p.a ≤ 9223372036854775807
  d : -9223372036854775808 ≤ p.d ∧ p.d ≤ 9223372036854775807
  k : -9223372036854775808 ≤ p.k ∧ p.k ≤ 9223372036854775807
  m : -9223372036854775808 ≤ p.m ∧ p.m ≤ 9223372036854775807
  n : p.tg.length ≤ 9223372036854775807
  tg : ∀ x ∈ p.tg, x.length ≤ 9223372036854775807
def Sn.ok (x : Sn) : Prop := (-9223372036854775808 ≤ x.t ∧ x.t ≤ 9223372036854775807) ∧ x.i.length ≤ 9223372036854775807 ∧ x.g.length ≤ 9223372036854775807
/-- A row of n bools in block g. -/
def BR (w : World) (g n : Nat) (b : Nat → Bool) : Prop := w.heap[g]? = some (.cells ((List.range n).map fun i => Value.bool (b i)).toArray 4 (0, 0))
theorem BR.lt {w : World} {g n : Nat} {b : Nat → Bool} (h : BR w g n b) : g < w.heap.size := (Array.getElem?_eq_some_iff.1 h).1
theorem BR.cell {w : World} {g n : Nat} {b : Nat → Bool} (h : BR w g n b) (j : Nat) (hj : j < n) : w.cell? ⟨g, j, none⟩ = some (.bool (b j)) := by
  unfold BR at h
  unfold World.cell?
  rw [h]
  simp [hj]
theorem BR.fz {w : World} {g n : Nat} {b : Nat → Bool} (h : BR w g n b) (j : Nat) : w.frozen? ⟨g, j, none⟩ = false := by
  unfold BR at h
  simp [World.frozen?, h]
theorem BR.set {w : World} {g n : Nat} {b : Nat → Bool} (h : BR w g n b) (j : Nat) (b' : Nat → Bool) (hb : ∀ i, i < n → b' i = if i = j then true else b i) : BR (w.setCell ⟨g, j, none⟩ (.bool true)) g n b' := by
  unfold BR at h ⊢
  have : (w.setCell ⟨g, j, none⟩ (.bool true)).heap[g]? = some (.cells (((List.range n).map fun i => Value.bool (b i)).toArray.setIfInBounds j (.bool true)) 4 (0, 0)) := by simp [World.setCell, Array.getElem?_modify, h]
  rw [this]
  congr 2
  apply Array.toList_inj.1
  rw [Array.toList_setIfInBounds]
  apply List.ext_getElem? fun i => ?_
  rw [List.getElem?_set]
  by_cases hi : i < n
  · have hb' := hb i hi
    by_cases e : j = i
    · subst e
      rw [if_pos rfl] at hb'
      simp [hi, hb']
    · rw [if_neg (fun h => e h.symm)] at hb'
      rw [if_neg e]
      simp [hi, hb']
  · simp [hi]; omega
theorem BR.eq {w : World} {g n : Nat} {b b' : Nat → Bool} (h : BR w g n b) (hb : ∀ i, i < n → b' i = b i) : BR w g n b' := by
  unfold BR at h ⊢
  rw [h]
  congr 2
  congr 1
  apply List.map_congr_left
  intro i hi
  rw [hb i (List.mem_range.1 hi)]
theorem BR.keep {w w' : World} {g n : Nat} {b : Nat → Bool} (h : BR w g n b) (hb : w'.heap[g]? = w.heap[g]?) : BR w' g n b := hb.trans h
theorem Try.infoBl : (Try.prog.info? 4).map (fun i => (i.zero, i.size, i.bytes)) = some (some (.bool false), 1, 1) := by kernel_rfl
theorem made_bl : ∀ n : Nat, madeCells #[Value.bool false] n = ((List.range n).map fun _ => Value.bool false).toArray := by
  intro n
  apply Array.toList_inj.1
  apply List.ext_getElem? fun i => ?_
  simp [madeCells]
  by_cases h : i < n <;> simp [h, Nat.mod_one]
theorem make_bl (n : Nat) (hn : n ≤ 1000) (W : World) : (Instr.makeSlice 27 (.int .i64 (n : Int)) (.int .i64 (n : Int))).run Try.prog W = .ok (.slice (some ⟨W.heap.size, 0, none⟩) n n) (W.alloc (.cells ((List.range n).map fun _ => Value.bool false).toArray 4)) := by
  obtain ⟨i0, hi, hz0, hz1, hz2⟩ := info_parts Try.infoBl
  have h := run_makeSlice (P := Try.prog) (w := W) 27 4 i0 (.bool false) Try.underlying27 hi hz0 .i64 .i64 n n (by omega) (by omega) (by rw [hz1]; omega) (by rw [hz2]; omega) (by omega)
  rw [h]
  simp only [Int.toNat_natCast, hz1, Nat.mul_one, Value.cells]
  rw [made_bl]
theorem Try.infoSn : (Try.prog.info? 39).map (fun i => (i.zero, i.size, i.bytes)) = some (some (.agg #[.string ⟨#[]⟩, .int .i64 0, .string ⟨#[]⟩]), 3, 40) := by kernel_rfl
theorem zeroSn (w : World) : (zeroValue 39).run Try.prog w = .ok (.agg #[.string ⟨#[]⟩, .int .i64 0, .string ⟨#[]⟩]) w := by kernel_rfl
end Go.Proofs.Ytkfaoldpcgokiaa
