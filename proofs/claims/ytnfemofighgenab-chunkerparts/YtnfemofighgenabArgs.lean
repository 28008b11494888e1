/- What a walk reads of a slice of strings, of bools, that came in. -/
import Derived.Test.YtnfemofighgenabBase
namespace Go.Proofs.Ytnfemofighgenab
open Go.RowKit
set_option linter.unusedVariables false

/-- What a walk is told of a slice of bools that came in. -/
def IsBs (w : World) (a : Option Addr) (len cap : Nat) (f : Nat → Bool) : Prop :=
  (a = none ∧ len = 0 ∧ cap = 0) ∨ ∃ x, a = some x ∧ len ≤ cap ∧ cap ≤ maxLen ∧ ∀ i, i < cap → w.cell? (x.add i) = some (.bool (f i))
/-- The k-th string of a list. -/
def strAt (ss : List ByteArray) (k : Nat) : ByteArray := ss.getD k ByteArray.empty
theorem add_none {b off : Nat} {k : Nat} : (⟨b, off, none⟩ : Addr).add k = ⟨b, off + k, none⟩ := by unfold Addr.add; split <;> simp_all
theorem strs_at {w : World} {a : Option Addr} {len cap : Nat} {ss : List ByteArray} (h : IsStrs w a len cap ss) {k : Nat} (hk : k < len) :
    ∃ b off, a = some ⟨b, off, none⟩ ∧ w.cell? ⟨b, off + k, none⟩ = some (.string (strAt ss k)) ∧ b < w.heap.size ∧ (strAt ss k).size ≤ 9223372036854775807 := by
  rcases h with ⟨_, h0, _⟩ | ⟨x, rfl, hl, hm, hz, hcell, hwf⟩
  · omega
  · obtain ⟨b, off, spot⟩ := x
    have hc := hcell k (by omega)
    have hmem : strAt ss k ∈ ss := by
      unfold strAt; rw [List.getD_eq_getElem?_getD, List.getElem?_eq_getElem (by omega)]; simp
    have hspot : spot = none := by simpa [Addr.add] using World.cell?_spot (hcell 0 (by omega))
    subst hspot
    rw [add_none] at hc
    have := hwf _ hmem
    exact ⟨b, off, rfl, hc, block_lt_of_cell hc, by unfold maxLen at this; exact this⟩
theorem strs_len {w : World} {a : Option Addr} {len cap : Nat} {ss : List ByteArray} (h : IsStrs w a len cap ss) : len ≤ 9223372036854775807 := by
  rcases h with ⟨_, h0, _⟩ | ⟨x, _, hl, hm, _⟩
  · omega
  · unfold maxLen at hm; omega
theorem bs_at {w : World} {a : Option Addr} {len cap : Nat} {f : Nat → Bool} (h : IsBs w a len cap f) {k : Nat} (hk : k < len) :
    ∃ b off, a = some ⟨b, off, none⟩ ∧ w.cell? ⟨b, off + k, none⟩ = some (.bool (f k)) ∧ b < w.heap.size := by
  rcases h with ⟨_, h0, _⟩ | ⟨x, rfl, hl, hm, hcell⟩
  · omega
  · obtain ⟨b, off, spot⟩ := x
    have hc := hcell k (by omega)
    have hspot : spot = none := by simpa [Addr.add] using World.cell?_spot (hcell 0 (by omega))
    subst hspot
    rw [add_none] at hc
    exact ⟨b, off, rfl, hc, block_lt_of_cell hc⟩
theorem bs_lenlen {w : World} {a : Option Addr} {len cap : Nat} {f : Nat → Bool} (h : IsBs w a len cap f) : len ≤ 9223372036854775807 := by
  rcases h with ⟨_, h0, _⟩ | ⟨x, _, hl, hm, _⟩
  · omega
  · unfold maxLen at hm; omega
theorem bel_cell {B : Nat} {w w' : World} {b j : Nat} {v : Value} (h : Below B w w') (hb : b < B) (hc : w.cell? ⟨b, j, none⟩ = some v) : w'.cell? ⟨b, j, none⟩ = some v := by
  rw [World.cell?_of_block (h.block b hb)]; exact hc
end Go.Proofs.Ytnfemofighgenab
