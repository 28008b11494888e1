/- Contracts of the reader's node and nodes, and of node.Decode. -/
import Derived.Test.YtkgjepgaekbniaaDoorQNodS
namespace Go.Proofs.YtkgjepgaekbniaaDoor
open Go.RowKit
set_option linter.unusedVariables false
set_option linter.unusedSimpArgs false

def rNode (s : St) : Nd × St :=
  if (rNum s).1 = 1 then (.fol (rText (rNum s).2).1 ((rNum (rText (rNum s).2).2).1 : Int) ((rNum (rNum (rText (rNum s).2).2).2).1 : Int), (rNum (rNum (rText (rNum s).2).2).2).2)
  else if (rNum s).1 = 2 then (.pla (rText (rNum s).2).1 ((rNum (rText (rNum s).2).2).1 : Int) ((rNum (rNum (rText (rNum s).2).2).2).1 : Int) ((rNum (rNum (rNum (rText (rNum s).2).2).2).2).1 : Int) (rSums (rNum (rNum (rNum (rText (rNum s).2).2).2).2).2).1, (rSums (rNum (rNum (rNum (rText (rNum s).2).2).2).2).2).2)
  else if (rNum s).1 = 3 then (.sym (rText (rNum s).2).1 ((rNum (rText (rNum s).2).2).1 : Int) ((rNum (rNum (rText (rNum s).2).2).2).1 : Int) (rText (rNum (rNum (rText (rNum s).2).2).2).2).1, (rText (rNum (rNum (rText (rNum s).2).2).2).2).2)
  else (.non, rFail 3 (rNum (rNum (rText (rNum s).2).2).2).2)
theorem rText_le (s : St) : (rText s).1.length ≤ s.rest.length ∧ (rText s).2.rest.length ≤ s.rest.length := by
  have h1 := rNum_le s
  have h2 := rTake_le (rNum s).1 (rNum s).2
  unfold rText
  omega
theorem rSums_le (s : St) : (rSums s).2.rest.length ≤ s.rest.length := by
  have h1 := rNum_le s
  have h2 := rTake_le ((rNum s).1 * 32) (rNum s).2
  unfold rSums
  show (rTake ((rNum s).1 * 32) (rNum s).2).2.rest.length ≤ _
  omega
theorem rFail_le (e : Int) (s : St) : (rFail e s).rest = s.rest := by unfold rFail; split <;> rfl
theorem rNode_le (s : St) : (rNode s).2.rest.length ≤ s.rest.length := by
  have h1 := (rNum_le s).2
  have h2 := (rText_le (rNum s).2).2
  have h3 := (rNum_le (rText (rNum s).2).2).2
  have h4 := (rNum_le (rNum (rText (rNum s).2).2).2).2
  unfold rNode
  split
  · show (rNum (rNum (rText (rNum s).2).2).2).2.rest.length ≤ _; omega
  · split
    · have h5 := (rNum_le (rNum (rNum (rText (rNum s).2).2).2).2).2
      have h6 := rSums_le (rNum (rNum (rNum (rText (rNum s).2).2).2).2).2
      show (rSums (rNum (rNum (rNum (rText (rNum s).2).2).2).2).2).2.rest.length ≤ _; omega
    · split
      · have h5 := (rText_le (rNum (rNum (rText (rNum s).2).2).2).2).2
        show (rText (rNum (rNum (rText (rNum s).2).2).2).2).2.rest.length ≤ _; omega
      · show (rFail 3 (rNum (rNum (rText (rNum s).2).2).2).2).rest.length ≤ _
        rw [rFail_le]; omega
/-- v is this node; a file's chunks lie in a row of one's own. -/
def NO (w : World) (B : Nat) (v : Value) : Nd → Prop
  | .fol a m t => v = .iface 42 (.agg #[.string (mkB a), .int .i64 m, .int .i64 t])
  | .pla a m t s c => ∃ u, v = .iface 29 (.agg #[.string (mkB a), .int .i64 m, .int .i64 t, .int .i64 s, u]) ∧ OT w B u c
  | .sym a m t g => v = .iface 44 (.agg #[.string (mkB a), .int .i64 m, .int .i64 t, .string (mkB g)])
  | .ptr a m t => ∃ b, B ≤ b ∧ v = .iface 45 (.pointer (some ⟨b, 0, none⟩)) ∧ w.heap[b]? = some (.cells #[.string (mkB a), .int .i64 m, .int .i64 t] 42 (0, 0))
  | .non => v = .nilIface
theorem lt_of_heap {w : World} {b : Nat} {o : Obj} (h : w.heap[b]? = some o) : b < w.heap.size := (Array.getElem?_eq_some_iff.1 h).1
theorem OT.tr {w : World} {B : Nat} {v : Value} {l : List (List UInt8)} (h : OT w B v l) : TR w v l := by
  have h' := h
  rcases h.2 with ⟨rfl, h0⟩ | ⟨k, cap, cur, rfl, h2, h3, h4, _⟩
  · exact ⟨none, 0, by rw [h0], by omega, fun i hi => by omega⟩
  · exact ⟨some ⟨k, 0, none⟩, cap, rfl, h4, fun i hi => ⟨⟨k, 0, none⟩, rfl, by rw [Addr.add_lit, Nat.zero_add]; exact h'.cell i hi rfl⟩⟩
theorem NO.nv {w : World} {B : Nat} {v : Value} {n : Nd} (h : NO w B v n) : NV w v n := by
  cases n with
  | fol => exact h
  | pla => obtain ⟨u, h1, h2⟩ := h; exact ⟨u, h1, h2.tr⟩
  | sym => exact h
  | ptr =>
    obtain ⟨b, _, h1, h2⟩ := h
    exact ⟨⟨b, 0, none⟩, h1, by rw [Lib.cell_of_heap h2]; rfl, by rw [Addr.add_lit, Lib.cell_of_heap h2]; rfl, by rw [Addr.add_lit, Lib.cell_of_heap h2]; rfl⟩
  | non => exact h
theorem NO.grown {w w' : World} {B g : Nat} {v : Value} {n : Nd} (h : NO w B v n) (hg : w.grownBy w' (some g)) (hB : g < B) : NO w' B v n := by
  cases n with
  | fol => exact h
  | pla => obtain ⟨u, h1, h2⟩ := h; exact ⟨u, h1, h2.grown hg hB⟩
  | sym => exact h
  | ptr => obtain ⟨b, h0, h1, h2⟩ := h; exact ⟨b, h0, h1, (hg.block b (lt_of_heap h2) (fun e => by have := Option.some.inj e; omega)).trans h2⟩
  | non => exact h
theorem NO.mono {w : World} {B B' : Nat} {v : Value} {n : Nd} (h : NO w B v n) (hB : B' ≤ B) : NO w B' v n := by
  cases n with
  | fol => exact h
  | pla => obtain ⟨u, h1, h2⟩ := h; exact ⟨u, h1, h2.mono hB⟩
  | sym => exact h
  | ptr => obtain ⟨b, h0, h1, h2⟩ := h; exact ⟨b, by omega, h1, h2⟩
  | non => exact h
set_option maxRecDepth 100000 in
set_option maxHeartbeats 2000000 in
theorem rnode_any (g : Nat) (s : St) (w : World) (h : RD w g s) (hl : s.rest.length ≤ 1000000000) :
    Calls Tryd.prog 37 #[.pointer (some ⟨g, 0, none⟩)] w fun e w' => ∃ v, e = .returned v ∧ NO w' w.heap.size v (rNode s).1 ∧ RD w' g (rNode s).2 ∧ w.grownBy w' (some g) := by
  have hgw := h.lt
  have h1l := (rNum_le s).2
  have h2l := (rText_le (rNum s).2).2
  have h3l := (rNum_le (rText (rNum s).2).2).2
  have h4l := (rNum_le (rNum (rText (rNum s).2).2).2).2
  have h5l := (rNum_le (rNum (rNum (rText (rNum s).2).2).2).2).2
  have HE : Hid (rNode s = _) := rfl
  unfold Hid at HE
  conv at HE => rhs; unfold rNode
  have HE2 : Hid (rNode s = _) := HE
  clear HE
  go_enter Tryd.func37, Tryd.ntmps37
  go_wp2_with fail
  refine (rnum_any g s _ h hl).mono ?_
  rintro e w1 ⟨rfl, r1, k1⟩
  have R1 : Hid (RD w1 g (rNum s).2) := r1
  clear r1
  go_wp2_with fail
  refine (rtext_any' g (rNum s).2 _ R1.out (by omega)).mono ?_
  rintro e w2 ⟨rfl, r2, k2⟩
  have R2 : Hid (RD w2 g _) := r2
  clear r2 R1
  go_wp2_with fail
  refine (rnum_any g (rText (rNum s).2).2 _ R2.out (by omega)).mono ?_
  rintro e w3 ⟨rfl, r3, k3⟩
  have R3 : Hid (RD w3 g _) := r3
  clear r3 R2
  go_wp2_with fail
  refine (rnum_any g (rNum (rText (rNum s).2).2).2 _ R3.out (by omega)).mono ?_
  rintro e w4 ⟨rfl, r4, k4⟩
  have R4 : Hid (RD w4 g _) := r4
  have K4 : Hid (w.grownBy w4 (some g)) := ntrans (ntrans (ntrans k1 k2) k3) k4
  clear r4 R3 k1 k2 k3 k4
  generalize (rNum s).1 = K at *
  generalize (rText (rNum s).2).1 = AT at *
  generalize (rNum (rText (rNum s).2).2).1 = M at *
  generalize (rNum (rNum (rText (rNum s).2).2).2).1 = T at *
  generalize (rNum (rNum (rText (rNum s).2).2).2).2 = S4 at *
  by_cases e1 : K = 1
  · subst e1
    have HE : Hid (rNode s = (.fol AT (M : Int) (T : Int), S4)) := by unfold Hid; rw [HE2.out, if_pos rfl]
    clear HE2
    go_wp2
    go_ret
    rw [HE.out]
    exact ⟨_, rfl, rfl, R4.out, K4.out⟩
  have n1 : ((K : Int) == 1) = false := beq_eq_false_iff_ne.2 (by omega)
  by_cases e2 : K = 2
  · subst e2
    have HE : Hid (rNode s = (.pla AT (M : Int) (T : Int) ((rNum S4).1 : Int) (rSums (rNum S4).2).1, (rSums (rNum S4).2).2)) := by unfold Hid; rw [HE2.out, if_neg (by decide), if_pos rfl]
    clear HE2 n1
    go_wp2_with fail
    refine (rnum_any g S4 _ R4.out (by omega)).mono ?_
    rintro e w5 ⟨rfl, r5, k5⟩
    have R5 : Hid (RD w5 g (rNum S4).2) := r5
    have hz5 : w.heap.size ≤ w5.heap.size := Nat.le_trans K4.out.size k5.size
    clear r5 R4
    go_wp2_with fail
    refine (rsums_any g (rNum S4).2 _ R5.out (by omega)).mono ?_
    rintro e w6 ⟨v6, rfl, o6, r6, k6⟩
    have K6 : Hid (w.grownBy w6 (some g)) := ntrans (ntrans K4.out k5) k6
    have R6 : Hid (RD w6 g (rSums (rNum S4).2).2) := r6
    have O6 : Hid (OT w6 w.heap.size v6 (rSums (rNum S4).2).1) := o6.mono hz5
    obtain ⟨va, vc, hv6⟩ := O6.out.tr.len
    clear o6 r6 k5 k6 R5
    generalize (rSums (rNum S4).2).1 = CS at *
    generalize (rSums (rNum S4).2).2 = S6 at *
    generalize (rNum S4).1 = Z at *
    subst hv6
    go_wp2
    go_ret
    rw [HE.out]
    exact ⟨_, rfl, ⟨_, rfl, O6.out⟩, R6.out, K6.out⟩
  have n2 : ((K : Int) == 2) = false := beq_eq_false_iff_ne.2 (by omega)
  by_cases e3 : K = 3
  · subst e3
    have HE : Hid (rNode s = (.sym AT (M : Int) (T : Int) (rText S4).1, (rText S4).2)) := by unfold Hid; rw [HE2.out, if_neg (by decide), if_neg (by decide), if_pos rfl]
    clear HE2 n1 n2
    go_wp2_with fail
    refine (rtext_any' g S4 _ R4.out (by omega)).mono ?_
    rintro e w5 ⟨rfl, r5, k5⟩
    have K5 : Hid (w.grownBy w5 (some g)) := ntrans K4.out k5
    have R5 : Hid (RD w5 g (rText S4).2) := r5
    clear k5 r5
    generalize (rText S4).1 = TG at *
    generalize (rText S4).2 = S5 at *
    go_wp2
    go_ret
    rw [HE.out]
    exact ⟨_, rfl, rfl, R5.out, K5.out⟩
  · have n3 : ((K : Int) == 3) = false := beq_eq_false_iff_ne.2 (by omega)
    have HE : Hid (rNode s = (.non, rFail 3 S4)) := by unfold Hid; rw [HE2.out, if_neg e1, if_neg e2, if_neg e3]
    clear HE2
    go_wp2_with fail
    refine (fail_any g S4 3 _ R4.out).mono ?_
    rintro e w5 ⟨rfl, r5, k5⟩
    have K5 : Hid (w.grownBy w5 (some g)) := ntrans K4.out k5
    have R5 : Hid (RD w5 g (rFail 3 S4)) := r5
    clear k5 r5
    go_wp2
    go_ret
    rw [HE.out]
    exact ⟨_, rfl, rfl, R5.out, K5.out⟩
end Go.Proofs.YtkgjepgaekbniaaDoor
