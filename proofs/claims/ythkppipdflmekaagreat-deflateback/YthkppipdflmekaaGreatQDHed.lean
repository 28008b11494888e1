/- deflate's head; parts put behind parts. -/
import Derived.Test.YthkppipdflmekaaGreatQDBod
import Derived.Test.YthkppipdflmekaaGreatQSto
import Derived.Laws.AppendOwnNone
set_option maxRecDepth 100000
set_option maxHeartbeats 1000000
namespace Go.Proofs.YthkppipdflmekaaGreat
open Go.RowKit
set_option linter.unusedVariables false
set_option linter.unusedSimpArgs false
theorem PO.made2 (w : World) (p q : Prt) : PO (w.alloc (.cells #[.int .u32 (p.b : Int), .int .i64 (p.c : Int), .bool p.code, .int .u32 (q.b : Int), .int .i64 (q.c : Int), .bool q.code] 119)) w.heap.size (.slice (some ⟨w.heap.size, 0, none⟩) 2 2) [p, q] :=
 ⟨rfl, .inr ⟨w.heap.size, 2, #[.int .u32 (p.b : Int), .int .i64 (p.c : Int), .bool p.code, .int .u32 (q.b : Int), .int .i64 (q.c : Int), .bool q.code], rfl, Nat.le_refl _, heap_alloc_new w _, Nat.le_refl _, by decide, rfl, rfl⟩⟩
theorem qer {w : World} {ops : Array Oper} {rest : List Oper} {o : Oper} {a : Act} {Q : Exit → Act → World → Prop} (hgd : o.guard = none) (s y : Operand)
    (ho : o.op = .call { callee := .builtin .append, args := #[s, y], argTypes := #[68, 68] })
    (B C : Nat) (v u : Value) (l c : List Prt) (hs : a.eval s = v) (hx : a.eval y = u) (hO : PO w B v l) (hU : PO w C u c) (hl : l.length + c.length ≤ 1000000) (hB : B ≤ w.heap.size)
    (h : ∀ a' c' w', PO w' B (.slice a' (l.length + c.length) c') (l ++ c) → w.grownBy w' v.ownBlock → wpList Tryz.prog ops Q rest (a.put o.dst (.slice a' (l.length + c.length) c')) w') : wpList Tryz.prog ops Q (o :: rest) a w := by
 obtain ⟨i0, hi, hz0, hz1, hz2⟩ := info_parts Tryz.infoPr
 have e : (l ++ c).length = l.length + c.length := by simp
 rcases hU.2 with ⟨rfl, h0⟩ | ⟨g, cap, cur, rfl, _, _, hc, _⟩
 · have hc0 : c = [] := List.length_eq_zero_iff.1 h0
   subst hc0
   obtain ⟨va, vc, rfl⟩ := hO.shape
   refine wpList_append_own_none hgd s y 68 ho B 119 i0 3 Tryz.underlying68 hi _ _ _ hs hO hx ?_
   exact h va vc w (by rw [List.append_nil]; exact hO) (qcj _ _)
 · have hN : ∀ j u, (prsC c)[j]? = some u → w.cell? ((⟨g, 0, none⟩ : Addr).add j) = some u := fun j u hu => World.ownsRow.cells hU (g := g) rfl j u hu
   refine wpList_append_own_at _ hgd s y 68 ho B 119 i0 (.agg #[.int .u32 0, .int .i64 0, .bool false]) 3 24 Tryz.underlying68 hi hz0 hz1 hz2 rfl (by decide) v _ _ hs hO ⟨g, 0, none⟩ c.length cap (prsC c) hx (qhp c) hN (qq3 _) (by unfold maxLen; omega) (by omega) hB ?_
   intro v' w' hown hg _ _
   have hO' : PO w' B v' (l ++ c) := by unfold PO; rw [qq4, e]; exact hown
   obtain ⟨a', c', rfl⟩ := hO'.shape
   rw [e] at hO' ⊢
   exact h a' c' w' hO' hg
def qcr (last : Bool) (kind : Nat) : List Prt := [⟨qbf last, 1, false⟩, ⟨kind, 2, false⟩]
theorem qrl (last : Bool) (kind : Nat) (w : World) (hk : kind < 4) :
    Calls Tryz.prog 48 #[.bool last, .int .i64 (kind : Int)] w fun e w' => ∃ a c, e = .returned (.slice a 2 c) ∧ PO w' w.heap.size (.slice a 2 c) (qcr last kind) ∧ Below w.heap.size w w' := by
 have hf1 : qbf last ≤ 1 := by unfold qbf; cases last <;> simp
 have HF := qrx last w
 have H1 := qcf (qbf last) 1 w (by omega)
 have H2 : Hid (∀ W, Calls Tryz.prog 54 #[.int .i64 (kind : Int), .int .i64 2] W fun e w' => e = .returned (pv ⟨kind, 2, false⟩) ∧ Below W.heap.size W w') := fun W => qcf kind 2 W (by omega)
 have HE : Hid (qcr last kind = [⟨qbf last, 1, false⟩, ⟨kind, 2, false⟩]) := rfl
 rw [show ((1 : Nat) : Int) = 1 from rfl] at H1
 unfold pv at H1 H2
 generalize qbf last = fl at *
 have hwf : IntKind.i64.wrap (fl : Int) = (fl : Int) := by rw [IntKind.wrap_i64]; omega
 go_enter Tryz.func48, Tryz.ntmps48
 go_wp2_with fail
 refine HF.mono ?_
 rintro e w1 ⟨rfl, rfl⟩
 go_wp2_with fail
 refine H1.mono ?_
 rintro e w2 ⟨rfl, hb2⟩
 have HB2 : Hid (Below w1.heap.size w1 w2) := hb2
 clear hb2
 go_wp2_with fail
 refine (H2.out w2).mono ?_
 rintro e w3 ⟨rfl, hb3⟩
 have HB3 : Hid (Below w1.heap.size w1 w3) := HB2.out.trans (hb3.mono HB2.out.size)
 have HM := PO.made2 w3 ⟨fl, 1, false⟩ ⟨kind, 2, false⟩
 have HMM : Hid (PO (w3.alloc (.cells #[.int .u32 (fl : Int), .int .i64 1, .bool false, .int .u32 (kind : Int), .int .i64 2, .bool false] 119)) w3.heap.size (.slice (some ⟨w3.heap.size, 0, none⟩) 2 2) [⟨fl, 1, false⟩, ⟨kind, 2, false⟩]) := HM
 clear hb3 HM
 go_wp2
 go_ret
 exact ⟨_, _, rfl, by rw [HE.out]; exact HMM.out.base HB3.out.size, HB3.out.alloc HB3.out.size _⟩
def qbq (ts : List Tok) (last : Bool) : List Prt := qcr last 1 ++ qaj fixL fixD (qah ts)
end Go.Proofs.YthkppipdflmekaaGreat
