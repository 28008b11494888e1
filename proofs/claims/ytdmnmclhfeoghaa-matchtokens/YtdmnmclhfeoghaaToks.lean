/- A slice of tokens (match.Token) that came in: what a walk is told of it. -/
import Derived.Test.YtdmnmclhfeoghaaMatchX
import Derived.Deep.Slices
import Derived.ProofKit
import Derived.OpenShut
namespace Go.Proofs.Ytdmnmclhfeoghaa
open Go.ChangeShapes Go.WideShapes Go.ChangeAt Go.RowKit
set_option linter.unusedVariables false

def Tok.ok (d : Tok) : Prop := d.b < 256 ∧ (-9223372036854775808 ≤ d.l ∧ d.l ≤ 9223372036854775807) ∧ (-9223372036854775808 ≤ d.d ∧ d.d ≤ 9223372036854775807)
/-- The cells of a token. -/
def Tok.cells (d : Tok) : List Value := [.int .u8 (d.b : Int), .int .i64 d.l, .int .i64 d.d]
instance : Inhabited Tok := ⟨⟨0, 0, 0⟩⟩
/-- A slice of tokens: nil, or it leads to a row of such. -/
def IsToks (w : World) (a : Option Addr) (len cap : Nat) (A : Nat → Tok) : Prop :=
  (a = none ∧ len = 0 ∧ cap = 0) ∨ ∃ x : Addr, a = some x ∧ len ≤ cap ∧ cap ≤ 9223372036854775807 ∧ ∀ i, i < len → (A i).ok ∧ ∀ j v, (A i).cells[j]? = some v → w.cell? (x.add (i * 3 + j)) = some v
theorem Try.cellsTok : Try.prog.cellsOf 35 = 3 := by kernel_rfl
theorem open_toks {H : Type} {enc : TypeId × Value → H} {w : World} {base : Nat} {a : Option Addr} {len cap : Nat} {d : DataW H} {p : List MemPlace}
    (h : DataW.Trod enc Try.prog w base (fun _ => true) true 32 (.slice a len cap) d p) : ∃ A, IsToks w a len cap A := by
  obtain ⟨fuel, hf⟩ := h
  rcases Go.Deep.open_slice Try.underlying32 hf with ⟨hcs, _⟩ | ⟨x, l, c, m, n, D, Pl, hcs, hb, hl, hm, hmm, _, hx⟩
  · simp [Value.cells] at hcs
    obtain ⟨rfl, rfl, rfl⟩ := hcs
    exact ⟨fun _ => default, .inl ⟨rfl, rfl, rfl⟩⟩
  · simp [Value.cells] at hcs
    obtain ⟨rfl, rfl, rfl⟩ := hcs
    simp only [if_true] at hmm
    subst hmm
    have each : ∀ i, i < len → ∃ A : Tok, A.ok ∧ ∀ j v, A.cells[j]? = some v → w.cell? (x.add (i * 3 + j)) = some v := by
      intro i hi
      obtain ⟨cs', h1, h2⟩ := hx i (by omega)
      rw [Try.cellsTok] at h1
      obtain ⟨_, hlen, hcell⟩ := World.cells?_some h1
      obtain ⟨xs, k, hk, hxy, _, hxl, hf⟩ := DataW.trod_struct Try.underlying35 h2
      match cs', hlen with
      | [v0, v1, v2], _ =>
        have hxl' : xs.length = 3 := hxl
        have g0 : DataW.trod enc Try.prog w base (fun _ => true) true k 5 (([v0, v1, v2].drop 0).take (Try.prog.cellsOf 5)) = xs[0]? := hf 0 _ rfl
        have g1 : DataW.trod enc Try.prog w base (fun _ => true) true k 3 (([v0, v1, v2].drop 1).take (Try.prog.cellsOf 3)) = xs[1]? := hf 1 _ rfl
        have g2 : DataW.trod enc Try.prog w base (fun _ => true) true k 3 (([v0, v1, v2].drop 2).take (Try.prog.cellsOf 3)) = xs[2]? := hf 2 _ rfl
        rw [List.getElem?_eq_getElem (by omega), show Try.prog.cellsOf 5 = 1 by kernel_rfl] at g0
        rw [List.getElem?_eq_getElem (by omega), show Try.prog.cellsOf 3 = 1 by kernel_rfl] at g1 g2
        simp only [List.drop_zero, List.drop_succ_cons, List.take_succ_cons, List.take_zero] at g0 g1 g2
        obtain ⟨n0, e0, _, w0⟩ := DataW.trod_int Try.underlying5 g0
        obtain ⟨n1, e1, _, w1⟩ := DataW.trod_int Try.underlying3 g1
        obtain ⟨n2, e2, _, w2⟩ := DataW.trod_int Try.underlying3 g2
        have b0 := bounds_u8 w0
        have b1 := bounds_i64 w1
        have b2 := bounds_i64 w2
        obtain ⟨m0, rfl⟩ := Int.eq_ofNat_of_zero_le b0.1
        simp only [List.cons.injEq, and_true] at e0 e1 e2
        subst e0 e1 e2
        refine ⟨⟨m0, n1, n2⟩, ⟨by show m0 < 256; have := b0.2; omega, b1, b2⟩, fun j v hv => ?_⟩
        have hj : j < 3 := by have := (List.getElem?_eq_some_iff.1 hv).1; simpa [Tok.cells] using this
        have hc := hcell j hj
        rw [Go.Deep.add_add] at hc
        rw [hc]
        exact hv
    obtain ⟨A, hA⟩ := Go.Deep.choose_lt each
    exact ⟨A, .inr ⟨x, rfl, hl, hm, hA⟩⟩
theorem IsToks.len_le {w : World} {a : Option Addr} {len cap : Nat} {A : Nat → Tok} (h : IsToks w a len cap A) : len ≤ 9223372036854775807 := by
  rcases h with ⟨_, h, _⟩ | ⟨x, _, h1, h2, _⟩ <;> omega
theorem IsToks.at {w wr : World} {a : Option Addr} {len cap : Nat} {A : Nat → Tok} (h : IsToks w a len cap A) (hb : Below w.heap.size w wr) (i : Nat) (hi : i < len) :
    (A i).ok ∧ ∃ b off, a = some ⟨b, off, none⟩ ∧ b < w.heap.size ∧ wr.cell? ⟨b, off + i * 3, none⟩ = some (.int .u8 ((A i).b : Int)) ∧ wr.cell? ⟨b, off + i * 3 + 1, none⟩ = some (.int .i64 (A i).l) ∧ wr.cell? ⟨b, off + i * 3 + 2, none⟩ = some (.int .i64 (A i).d) := by
  rcases h with ⟨_, h, _⟩ | ⟨x, rfl, h1, h2, h3⟩
  · omega
  · obtain ⟨hok, hc⟩ := h3 i hi
    refine ⟨hok, ?_⟩
    have c0 := hc 0 _ rfl
    have c1 := hc 1 _ rfl
    have c2 := hc 2 _ rfl
    obtain ⟨b, off, spot⟩ := x
    have d0 := (h3 0 (by omega)).2 0 _ rfl
    have hspot : spot = none := by simpa [Addr.add] using World.cell?_spot d0
    subst hspot
    have e : ∀ j, (⟨b, off, none⟩ : Addr).add j = ⟨b, off + j, none⟩ := fun j => by unfold Addr.add; split <;> simp_all
    rw [e] at c0 c1 c2
    have hbl := World.block_lt_of_cell? w _ c0
    refine ⟨b, off, rfl, hbl, ?_, ?_, ?_⟩
    · rw [hb.cell (p := ⟨b, off + i * 3, none⟩) hbl]; exact c0
    · rw [hb.cell (p := ⟨b, off + i * 3 + 1, none⟩) hbl, Nat.add_assoc]; exact c1
    · rw [hb.cell (p := ⟨b, off + i * 3 + 2, none⟩) hbl, Nat.add_assoc]; exact c2
end Go.Proofs.Ytdmnmclhfeoghaa
