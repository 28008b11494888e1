/- Nodes of records, in plain lists; rows of texts that are cut. -/
import Derived.Test.YtkgjepgaekbniaaDoorQNodO
namespace Go.Proofs.YtkgjepgaekbniaaDoor
open Go.RowKit
set_option linter.unusedVariables false
set_option linter.unusedSimpArgs false

def cut20 (r : Rc) : Rc := { r with ch := r.ch.take 20 }
def allN (rs : List Rc) : List Nd := (rs.take 210).map fun r => ndOf (cut20 r)
theorem cut20_ok {r : Rc} (h : r.ok) : (cut20 r).ok := by
  obtain ⟨h1, h2, h3, h4, h5, h6, h7, h8⟩ := h
  exact ⟨h1, h2, h3, h4, h5, h6, by show (r.ch.take 20).length ≤ _; rw [List.length_take]; omega, fun x hx => h8 x (List.mem_of_mem_take hx)⟩
theorem allN_len (rs : List Rc) : (allN rs).length ≤ 210 := by unfold allN; rw [List.length_map, List.length_take]; omega
theorem take_snoc' {α : Type} (l : List α) (k : Nat) (d : α) (h : k < l.length) : l.take (k + 1) = l.take k ++ [l.getD k d] := by
  rw [List.take_add_one, List.getElem?_eq_getElem h, List.getD_eq_getElem?_getD, List.getElem?_eq_getElem h]; rfl
theorem TR.cut {w : World} {u : Value} {l : List (List UInt8)} (h : TR w u l) (n : Nat) (hn : n ≤ l.length) : ∃ a cap, u = .slice a l.length cap ∧ l.length ≤ cap ∧ TR w (.slice a n cap) (l.take n) := by
  obtain ⟨a, cap, rfl, h1, h2⟩ := h
  have hl : (l.take n).length = n := by rw [List.length_take]; omega
  refine ⟨a, cap, rfl, h1, a, cap, by rw [hl], by rw [hl]; omega, fun i hi => ?_⟩
  rw [hl] at hi
  obtain ⟨x, hx, hc⟩ := h2 i (by omega)
  refine ⟨x, hx, ?_⟩
  rw [hc, List.getD_eq_getElem?_getD, List.getD_eq_getElem?_getD, List.getElem?_take, if_pos hi]
theorem TR.cut2 {w : World} {a : Option Addr} {n' cap : Nat} {l : List (List UInt8)} (h : TR w (.slice a n' cap) l) (n : Nat) (hn : n ≤ l.length) : n ≤ cap ∧ TR w (.slice a n cap) (l.take n) := by
  obtain ⟨a', cap', he, h1, h2⟩ := h.cut n hn
  injection he with e1 e2 e3
  subst e1 e3
  exact ⟨by omega, h2⟩
theorem TR.below' {w w' : World} {v : Value} {l : List (List UInt8)} (h : TR w v l) (hb : Below w.heap.size w w') : TR w' v l := h.below hb
theorem NO.form {w : World} {B : Nat} {v : Value} {n : Nd} (h : NO w B v n) : (∃ T y, v = .iface T y) ∨ v = .nilIface := by
  cases n with
  | fol => exact .inl ⟨_, _, h⟩
  | pla => obtain ⟨y, h1, _⟩ := h; exact .inl ⟨_, _, h1⟩
  | sym => exact .inl ⟨_, _, h⟩
  | ptr => obtain ⟨b, _, h1, _⟩ := h; exact .inl ⟨_, _, h1⟩
  | non => exact .inr h
end Go.Proofs.YtkgjepgaekbniaaDoor
