/- Bytes that a call has gathered in a row of its own (one that '[]byte(s)' made too: it bears a mark behind its last cell): the law of append on it. -/
import Derived.Test.YtlnagnkiadlfpaaDoorHashM
import Derived.ArgAppend
import Derived.Laws.IdiomStrings
import Derived.Lib.LazyBuf
import Derived.Deep.MidRow
namespace Go.Proofs.YtlnagnkiadlfpaaDoor
open Go.RowKit
set_option linter.unusedVariables false

/-- These bytes as cells. -/
def bc (l : List UInt8) : List Value := l.map fun x => Value.int .u8 (x.toNat : Int)
theorem bc_len (l : List UInt8) : (bc l).length = l.length := by simp [bc]
theorem bc_append (l m : List UInt8) : bc (l ++ m) = bc l ++ bc m := by simp [bc]
theorem bc_one (l : List UInt8) : ∀ v ∈ bc l, v.oneCell' = true := by
  intro v hv
  simp [bc] at hv
  obtain ⟨x, _, rfl⟩ := hv
  rfl
/-- v is a slice of the bytes l, in a block that is not below B; its spare cells may be written. -/
def OwnB (B : Nat) (w : World) (v : Value) (l : List UInt8) : Prop :=
  ∃ g cap, v = .slice (some ⟨g, 0, none⟩) l.length cap ∧ B ≤ g ∧ g < w.heap.size ∧ l.length ≤ cap ∧ (∀ j u, (bc l)[j]? = some u → w.cell? ⟨g, j, none⟩ = some u) ∧ ∀ j, j < cap → (w.cell? ⟨g, j, none⟩).isSome = true ∧ w.frozen? ⟨g, j, none⟩ = false
theorem OwnB.mono {B C : Nat} {w : World} {v : Value} {l : List UInt8} (h : OwnB B w v l) (hC : C ≤ B) : OwnB C w v l := by
  obtain ⟨g, cap, rfl, h1, h2⟩ := h
  exact ⟨g, cap, rfl, Nat.le_trans hC h1, h2⟩
theorem OwnB.drew {B : Nat} {w : World} {v : Value} {l : List UInt8} (h : OwnB B w v l) : OwnB B w.drew v l := h
theorem OwnB.alloc {B : Nat} {w : World} {v : Value} {l : List UInt8} (h : OwnB B w v l) (o : Obj) : OwnB B (w.alloc o) v l := by
  obtain ⟨g, cap, rfl, h1, h2, h3, h4, h5⟩ := h
  refine ⟨g, cap, rfl, h1, by rw [World.size_alloc]; omega, h3, fun j u hu => ?_, fun j hj => ?_⟩
  · rw [World.cell?_alloc_lt _ _ _ h2]; exact h4 j u hu
  · rw [World.cell?_alloc_lt _ _ _ h2, World.frozen?_alloc_past _ _ _ h2]; exact h5 j hj
theorem OwnB.of {B : Nat} {w : World} {v : Value} {e : TypeId} {l : List UInt8} {n : Nat} (h : w.ownsRow B e 1 v n (bc l)) (hl : 0 < l.length) : OwnB B w v l := by
  obtain ⟨h1, h2⟩ := h
  rw [bc_len, Nat.mul_one] at h1
  subst h1
  rcases h2 with ⟨rfl, h0⟩ | ⟨g, cap, cur, rfl, hB, hg, hc, hm, hs, ht⟩
  · omega
  · rw [Nat.mul_one] at hs ht
    refine ⟨g, cap, rfl, hB, ?_, hc, fun j u hu => ?_, fun j hj => ⟨?_, frozen_of_row _ _ _ _ _ hg⟩⟩
    · rcases Nat.lt_or_ge g w.heap.size with hl | hl
      · exact hl
      · rw [Array.getElem?_eq_none hl] at hg; cases hg
    · rw [cell_of_row _ _ _ _ _ _ hg]
      have hj : j < l.length := by have := (List.getElem?_eq_some_iff.1 hu).1; rwa [bc_len] at this
      rw [← ht, List.getElem?_take, if_pos hj] at hu
      simpa using hu
    · rw [cell_of_row _ _ _ _ _ _ hg, Array.getElem?_eq_getElem (by omega)]; rfl
/-- '[]byte(s)'. -/
theorem OwnB.conv (w : World) (e : TypeId) (s : ByteArray) : OwnB w.heap.size (w.drew.alloc (.cells (bytesRow s (grownCap w s.size 0 e)) e ((bytesRow s (grownCap w s.size 0 e)).size, (bytesRow s (grownCap w s.size 0 e)).size + 1))) (.slice (some ⟨w.heap.size, 0, none⟩) s.size (grownCap w s.size 0 e)) s.data.toList := by
  have hg : (w.drew.alloc (.cells (bytesRow s (grownCap w s.size 0 e)) e ((bytesRow s (grownCap w s.size 0 e)).size, (bytesRow s (grownCap w s.size 0 e)).size + 1))).heap[w.heap.size]? = _ := heap_alloc_new w.drew _
  have hge := grownCap_ge w s.size 0 e
  have hsz : (bytesRow s (grownCap w s.size 0 e)).size = grownCap w s.size 0 e := by
    have : s.data.size = s.size := rfl
    simp [bytesRow]; omega
  refine ⟨w.heap.size, grownCap w s.size 0 e, rfl, Nat.le_refl _, by rw [World.size_alloc]; exact Nat.lt_succ_self _, hge, fun j u hu => ?_, fun j hj => ⟨?_, ?_⟩⟩
  · rw [cell_of_row _ _ _ _ _ _ hg]
    have hj : j < s.data.size := by have := (List.getElem?_eq_some_iff.1 hu).1; rw [bc_len] at this; simpa using this
    unfold bytesRow
    rw [Array.getElem?_append_left (by simpa using hj)]
    simpa [bc] using hu
  · rw [cell_of_row _ _ _ _ _ _ hg, Array.getElem?_eq_getElem (by omega)]; rfl
  · simp only [World.frozen?, hg]
    simp; omega

theorem wpList_append_ownB {P : Program} (w : World) {ops : Array Oper} {rest : List Oper} {o : Oper} {a : Act} {Q : Exit → Act → World → Prop}
    (hg : o.guard = none) (s x : Operand) (t : TypeId) (hop : o.op = Op.call { callee := Callee.builtin Builtin.append, args := #[s, x], argTypes := #[t, t] })
    (e : TypeId) (i : TypeInfo) (h1 : P.underlying t = some (.slice e)) (h2 : P.info? e = some i) (h3 : i.zero = some (.int .u8 0)) (h4 : i.size = 1) (h5 : i.bytes = 1)
    (B : Nat) (v : Value) (l m : List UInt8) (hs : a.eval s = v) (hown : OwnB B w v l) (w0 : World) (hbel : Below B w0 w) (hB : B ≤ w.heap.size)
    (ad : Addr) (n c : Nat) (hx : a.eval x = .slice (some ad) n c) (hn : m.length = n) (hc : ∀ j u, (bc m)[j]? = some u → w.cell? (ad.add j) = some u)
    (b1 : l.length + n ≤ 140737488355328) (hpos : 0 < n)
    (hK : ∀ v' w', OwnB B w' v' (l ++ m) → Below B w0 w' → wpList P ops Q rest (a.put o.dst v') w') :
    wpList P ops Q (o :: rest) a w := by
  subst hn
  obtain ⟨g, cap, rfl, hBg, hgl, hlc, hcells, hfree⟩ := hown
  refine wpList_append_arg w hg s x t hop e i (.int .u8 0) 1 1 h1 h2 h3 h4 h5 rfl (by decide) g 0 l.length cap (bc l) hs (by rw [bc_len]; omega) (fun j u hu => by rw [Nat.zero_add]; exact hcells j u hu)
    ad m.length c (bc m) hx (by rw [bc_len]; omega) hc (bc_one m) (fun hr j hj => by rw [bc_len] at hj; simp only [Nat.zero_add, Nat.mul_one]; exact hfree _ (by omega)) (by unfold maxLen; omega) (by omega) (fun hr => ?_) (fun hr v' w' hown' hgr => ?_)
  · rw [Nat.zero_add, Nat.mul_one]
    have hth : ∀ j, j < (bc m).length → (w.cell? ⟨g, l.length + j, none⟩).isSome = true := fun j hj => by rw [bc_len] at hj; exact (hfree _ (by omega)).1
    refine hK _ _ ⟨g, cap, by rw [List.length_append], hBg, ?_, by rw [List.length_append]; exact hr, fun j u hu => ?_, fun j hj => ⟨?_, ?_⟩⟩ (below_setCells hBg _ _ _ hbel)
    · exact Nat.lt_of_lt_of_le hgl (below_setCells (B := g) (a := w) (Nat.le_refl g) (bc m) l.length w (Below.refl _ w)).size
    · rw [bc_append] at hu
      by_cases hj : j < l.length
      · rw [World.cell?_setCells_out g _ _ w ⟨g, j, none⟩ (fun _ _ => Or.inl hj)]
        rw [List.getElem?_append_left (by rw [bc_len]; exact hj)] at hu
        exact hcells j u hu
      · rw [List.getElem?_append_right (by rw [bc_len]; omega), bc_len] at hu
        have hj2 : j - l.length < (bc m).length := (List.getElem?_eq_some_iff.1 hu).1
        have := World.cell?_setCells_in g (bc m) l.length w hth (j - l.length) hj2
        rw [show l.length + (j - l.length) = j by omega] at this
        rw [this, ← hu, List.getElem?_eq_getElem hj2]
    · exact World.isSome_setCells g _ _ w _ (hfree j hj).1
    · rw [World.frozen?_setCells]; exact (hfree j hj).2
  · have h' : w'.ownsRow B e 1 v' (l.length + m.length) (bc (l ++ m)) := by
      rw [bc_append]
      obtain ⟨q1, q2⟩ := hown'
      refine ⟨q1, ?_⟩
      rcases q2 with q | ⟨g', cap', cur', r1, r2, r3⟩
      · exact .inl q
      · exact .inr ⟨g', cap', cur', r1, Nat.le_trans hB r2, r3⟩
    exact hK v' w' (OwnB.of h' (by simp; omega)) (hbel.grown hgr hB (fun k hk => by cases hk))
/-- string(b). -/
theorem OwnB.text {P : Program} {B : Nat} {w : World} {v : Value} {l : List UInt8} {src dst e : TypeId} (hs : P.underlying src = some (.slice e)) (he : P.underlying e = some (.int .u8)) (hd : P.underlying dst = some .string) (h : OwnB B w v l) :
    (convert src dst v).run P w = .ok (.string (tx l)) w := by
  obtain ⟨g, cap, rfl, _, _, _, hc, _⟩ := h
  refine run_convert_bytes_back w src dst e ⟨g, 0, none⟩ cap l hs he hd (fun j hj => ?_)
  rw [Addr.add_lit, Nat.zero_add]
  exact hc j _ (by simp [bc, List.getElem?_eq_getElem hj])
end Go.Proofs.YtlnagnkiadlfpaaDoor
