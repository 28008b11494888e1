/- Items in a row; walk.Sort. -/
import Derived.Test.YtmjfcneofpddiaaDoorQWkA
import Derived.Maps.AppendAt
import Derived.Deep.MidRow
import Derived.Laws.AppendOwnNone
namespace Go.Proofs.YtmjfcneofpddiaaDoor
open Go.RowKit Go.Shelf Go.Lib Go.Sort
set_option linter.unusedVariables false
set_option linter.unusedSimpArgs false

def itsC (l : List It) : List Value := l.flatMap itC
theorem itsC_len : ∀ l : List It, (itsC l).length = l.length * 5
  | [] => rfl
  | x :: l => by
    have := itsC_len l
    unfold itsC at this ⊢
    rw [List.flatMap_cons, List.length_append, this, itC_len, List.length_cons]; omega
theorem itsC_append (l m : List It) : itsC (l ++ m) = itsC l ++ itsC m := by simp [itsC]
theorem itsC_one (l : List It) : ∀ v ∈ itsC l, v.oneCell' = true := by
  intro v hv
  unfold itsC at hv
  obtain ⟨x, _, h⟩ := List.mem_flatMap.1 hv
  exact itC_one x v h
theorem itsC_at : ∀ (l : List It) (i : Nat) (x : It), l[i]? = some x → ∀ j, j < 5 → (itsC l)[i * 5 + j]? = (itC x)[j]?
  | [], i, x, h, _, _ => by simp at h
  | y :: l, 0, x, h, j, hj => by
    simp at h; subst h
    unfold itsC
    rw [List.flatMap_cons, List.getElem?_append_left (by rw [itC_len]; omega)]; simp
  | y :: l, i + 1, x, h, j, hj => by
    have ih := itsC_at l i x (by simpa using h) j hj
    unfold itsC at ih ⊢
    rw [List.flatMap_cons, List.getElem?_append_right (by rw [itC_len]; omega), itC_len, ← ih]
    congr 1; omega
/-- v is a slice of these items, wherever it lies. -/
def IV (w : World) (v : Value) (l : List It) : Prop := ∃ a cap, v = .slice a l.length cap ∧ l.length ≤ cap ∧ (a = none → cap = 0) ∧ (l ≠ [] → ∃ g o, a = some ⟨g, o, none⟩ ∧ g < w.heap.size ∧ ∀ j u, (itsC l)[j]? = some u → w.cell? ⟨g, o + j, none⟩ = some u)
theorem IV.below {w w' : World} {v : Value} {l : List It} (h : IV w v l) (hb : Below w.heap.size w w') : IV w' v l := by
  obtain ⟨a, cap, rfl, hc, hn, hf⟩ := h
  refine ⟨a, cap, rfl, hc, hn, fun hne => ?_⟩
  obtain ⟨g, o, rfl, hg, hh⟩ := hf hne
  exact ⟨g, o, rfl, Nat.lt_of_lt_of_le hg hb.size, fun j u hu => by rw [hb.cell (p := ⟨g, o + j, none⟩) hg]; exact hh j u hu⟩
theorem Tryd.infoIt : (Tryd.prog.info? 25).map (fun i => (i.zero, i.size, i.bytes)) = some (some (.agg #[.string ⟨#[]⟩, .int .i64 0, .int .i64 0, .int .i64 0, .string ⟨#[]⟩]), 5, 56) := by kernel_rfl
/-- A row of items of one's own. -/
def IO (w : World) (B : Nat) (v : Value) (l : List It) : Prop := w.ownsRow B 25 5 v l.length (itsC l)
theorem IO.iv {w : World} {B : Nat} {v : Value} {l : List It} (h : IO w B v l) : IV w v l := by
  have hlt := World.ownsRow.lt h
  have h' := h
  rcases h.2 with ⟨rfl, h0⟩ | ⟨g, cap, cur, rfl, _, _, hc, _⟩
  · exact ⟨none, 0, by rw [h0], by omega, fun _ => rfl, fun hne => absurd (List.length_eq_zero_iff.1 h0) hne⟩
  · refine ⟨_, cap, rfl, hc, fun e => (by cases e), fun _ => ⟨g, 0, rfl, (hlt g rfl).2, fun j u hu => ?_⟩⟩
    have := World.ownsRow.cells h' (g := g) rfl j u hu
    rwa [Addr.add_mid] at this
/-- By rising paths. -/
def Srt (l : List It) : Prop := l.Pairwise fun a b => pcm b.p a.p ≠ -1
theorem mapBlock_other {w : World} {b k : Nat} {f : Array Value → Array Value} (h : k ≠ b) : (mapBlock w b f).heap[k]? = w.heap[k]? := by
  unfold mapBlock
  simp only [Array.getElem?_modify]
  rw [if_neg (fun e => h e.symm)]
theorem swk_below {N : Nat} [Inhabited (Fin N)] {enc : Fin N → List Value} {k : Nat} {w0 w' : World} {blk off B : Nat} {d' : Array (Fin N)} (h : SWK enc k w0 blk off d' w') (hB : B ≤ blk) (hB2 : B ≤ w0.heap.size) : RowKit.Below B w0 w' := by
  obtain ⟨n, os, rfl⟩ := h
  unfold sortWorldK putRowK putRow
  refine ⟨rfl, rfl, rfl, ?_, fun j hj => ?_⟩
  · simp [grow, mapBlock, Sort.ahead]
  · have hs : j < (mapBlock (Sort.ahead w0 n) blk (putCells id off (flatK enc k d'))).heap.size := by simp [mapBlock, Sort.ahead]; omega
    show ((mapBlock (Sort.ahead w0 n) blk (putCells id off (flatK enc k d'))).heap ++ os)[j]? = _
    rw [Array.getElem?_append_left hs, mapBlock_other (by omega)]
    rfl
theorem ofFn_get {N : Nat} [Inhabited (Fin N)] (i : Nat) (h : i < N) : (Array.ofFn (fun i : Fin N => i))[i]! = ⟨i, h⟩ := by
  rw [getElem!_pos _ i (by simpa using h)]; simp
theorem map_get_all (l : List It) : (Array.ofFn (fun i : Fin l.length => i)).toList.map l.get = l := by
  rw [Array.toList_ofFn, List.map_ofFn]
  apply List.ext_getElem
  · simp
  · intro i h1 h2; simp
theorem holds_its {w : World} {g B cap : Nat} (l : List It) [Inhabited (Fin l.length)] (h : IO w B (.slice (some ⟨g, 0, none⟩) l.length cap) l) : HoldsK (encP l) 5 w g 0 (Array.ofFn (fun i : Fin l.length => i)) := by
  have h' := h
  obtain ⟨cur, hheap⟩ : ∃ cur, w.heap[g]? = some (.cells cur 25 (0, 0)) := by
    rcases h.2 with ⟨e, _⟩ | ⟨g', cap', cur, e, _, hh, _⟩
    · cases e
    · cases e; exact ⟨cur, hh⟩
  intro j hj
  rw [size_flatK, Array.size_ofFn] at hj
  have h5 : j / 5 < l.length := by omega
  refine ⟨?_, by simp [World.frozen?, hheap]⟩
  rw [get_flatK _ _ _ _ (by rw [Array.size_ofFn]; exact hj), ofFn_get _ h5]
  have e : (itsC l)[j]? = (itC (l.get ⟨j / 5, h5⟩))[j % 5]? := by
    have := itsC_at l (j / 5) (l.get ⟨j / 5, h5⟩) (by simp) (j % 5) (by omega)
    rwa [show j / 5 * 5 + j % 5 = j by omega] at this
  have hlt : j % 5 < (itC (l.get ⟨j / 5, h5⟩)).length := by rw [itC_len]; omega
  have := World.ownsRow.cells h' (g := g) rfl j ((itC (l.get ⟨j / 5, h5⟩))[j % 5]) (by rw [e, List.getElem?_eq_getElem hlt])
  rw [Addr.add_mid] at this
  rw [this]
  unfold encP
  simp only [id]
  rw [getElem!_pos (itC (l.get ⟨j / 5, h5⟩)) (j % 5) hlt]
theorem iv_of_holds {w : World} {g cap : Nat} (l : List It) [Inhabited (Fin l.length)] (d : Array (Fin l.length)) (hs : d.size = l.length) (hc : l.length ≤ cap) (hg : g < w.heap.size) (h : HoldsK (encP l) 5 w g 0 d) : IV w (.slice (some ⟨g, 0, none⟩) l.length cap) (d.toList.map l.get) := by
  refine ⟨_, cap, by simp [hs], by simp [hs]; exact hc, fun e => (by cases e), fun _ => ⟨g, 0, rfl, hg, fun j u hu => ?_⟩⟩
  have hj : j < d.size * 5 := by
    have := (List.getElem?_eq_some_iff.1 hu).1
    rw [itsC_len] at this; simpa using this
  have h5 : j / 5 < d.size := by omega
  have hx : (d.toList.map l.get)[j / 5]? = some (l.get d[j / 5]!) := by
    rw [List.getElem?_map, List.getElem?_eq_getElem (by simpa using h5), getElem!_pos d (j / 5) h5]; simp
  have e := itsC_at (d.toList.map l.get) (j / 5) _ hx (j % 5) (by omega)
  rw [show j / 5 * 5 + j % 5 = j by omega, hu] at e
  have := (h.cell (i := j / 5) (c := j % 5) h5 (by omega)).1
  rw [Nat.add_assoc, show j / 5 * 5 + j % 5 = j by omega] at this
  rw [this]
  unfold encP
  have hlt : j % 5 < (itC (l.get d[j / 5]!)).length := by rw [itC_len]; omega
  rw [getElem!_pos (itC (l.get d[j / 5]!)) (j % 5) hlt, ← List.getElem?_eq_getElem hlt, ← e]
theorem srt_of {l : List It} [Inhabited (Fin l.length)] {d : Array (Fin l.length)} (hs : d.size = l.length) (h : SortedIn (ltOf (cfP l)) 0 l.length d) : Srt (d.toList.map l.get) := by
  unfold Srt
  rw [List.pairwise_map]
  rw [List.pairwise_iff_getElem]
  intro i j hi hj hij e
  simp only [Array.length_toList] at hi hj
  have := h i j (Nat.zero_le _) hij (by omega)
  unfold ltOf cfP at this
  rw [getElem!_pos d i (by omega), getElem!_pos d j (by omega)] at this
  simp only [Array.getElem_toList] at e
  have := of_decide_eq_false this
  omega
theorem perm_of {l : List It} [Inhabited (Fin l.length)] {d : Array (Fin l.length)} (h : PermIn 0 l.length (Array.ofFn (fun i : Fin l.length => i)) d) : d.size = l.length ∧ (d.toList.map l.get).Perm l := by
  obtain ⟨h1, _, h3⟩ := h
  rw [Array.size_ofFn] at h1
  refine ⟨h1, ?_⟩
  have e1 : d.extract 0 l.length = d := by
    have h : d.extract 0 d.size = d := Array.extract_size
    rw [h1] at h; exact h
  have e2 : (Array.ofFn (fun i : Fin l.length => i)).extract 0 l.length = Array.ofFn (fun i : Fin l.length => i) := by
    have h : (Array.ofFn (fun i : Fin l.length => i)).extract 0 (Array.ofFn (fun i : Fin l.length => i)).size = Array.ofFn (fun i : Fin l.length => i) := Array.extract_size
    rw [Array.size_ofFn] at h; exact h
  rw [e1, e2] at h3
  have := h3.map l.get
  rwa [map_get_all] at this
end Go.Proofs.YtmjfcneofpddiaaDoor
