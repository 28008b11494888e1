/- Contract: the law's awake of layer 14. -/
import Derived.Test.YtmjfcneofpddiaaDoorQDskL
import Derived.Test.YtmjfcneofpddiaaDoorQDskN
namespace Go.Proofs.YtmjfcneofpddiaaDoor
open Go.RowKit Go.Maps
set_option linter.unusedVariables false
set_option linter.unusedSimpArgs false

theorem DK.less {w : World} {d : Nat} {S : DS} {K K' : Nat → Prop} {gs : List Nat} (h : DK w d S K gs) (hK : ∀ k, K' k → K k) : DK w d S K' gs :=
  h.kept (fun k hk _ => rfl) (fun k hk => ⟨h.Kb k (hK k hk), .inl (hK k hk)⟩)
theorem DK.new1 {w : World} {d : Nat} {S : DS} {K : Nat → Prop} {gs : List Nat} (h : DK w d S K gs) (o : Obj) : DK (w.alloc o) d S (fun k => K k ∨ k = w.heap.size) gs :=
  h.kept (fun k hk _ => Below.heap_alloc _ _ _ hk) (fun k hk => by
    rcases hk with hk | hk
    · exact ⟨by have := h.Kb k hk; simp; omega, .inl hk⟩
    · subst hk; exact ⟨by simp, .inr (Nat.le_refl _)⟩)
theorem KSl_one (w : World) (z : Int) (h0 : -9223372036854775808 ≤ z) (h1 : z ≤ 9223372036854775807) : KSl (w.alloc (.cells #[.int .i64 z] 3)) (.slice (some ⟨w.heap.size, 0, none⟩) 1 1) [z] := by
  refine ⟨_, 1, rfl, Nat.le_refl _, by simp, fun i hi => ⟨w.heap.size, 0, rfl, by simp, ?_⟩, fun y hy => by rw [List.mem_singleton] at hy; subst hy; exact ⟨h0, h1⟩⟩
  have : i = 0 := by simp at hi; exact hi
  subst this
  exact (cell_of_row _ _ _ _ _ _ (heap_alloc_new w _)).trans rfl
/-- A slice of numbers that came in. -/
theorem IsRow.ksl {w : World} {a : Option Addr} {len cap : Nat} {zs : List Int} (h : IsRow .i64 w a len cap zs) : KSl w (.slice a len cap) (zs.take len) ∧ (0 < (zs.take len).length → ∀ r, (Value.slice a len cap).ownBlock = some r → r < w.heap.size) := by
  rcases h with ⟨rfl, rfl, rfl, rfl⟩ | ⟨x, rfl, h1, h2, h3, h4, h5⟩
  · exact ⟨⟨none, 0, rfl, Nat.le_refl _, by simp, fun i hi => (by simp at hi), fun z hz => (by simp at hz)⟩, fun h => (by simp at h)⟩
  · have hl : (zs.take len).length = len := by rw [List.length_take]; omega
    have hx : ∀ i, i < len → ∃ b o, x = ⟨b, o, none⟩ ∧ b < w.heap.size ∧ w.cell? ⟨b, o + i, none⟩ = some (.int .i64 (zs.getD i 0)) := fun i hi => by
      have hc := h4 i (by omega)
      obtain ⟨b, o, s⟩ := x
      cases s with
      | none => rw [Addr.add_mid] at hc; exact ⟨b, o, rfl, World.block_lt_of_cell? _ _ hc, hc⟩
      | some s =>
        exfalso
        have h0 := h4 0 (by omega)
        rw [show (⟨b, o, some s⟩ : Addr).add 0 = ⟨b, o, some s⟩ by simp [Addr.add]] at h0
        unfold World.cell? at h0
        split at h0 <;> simp at h0
    refine ⟨⟨some x, cap, by rw [hl], by rw [hl]; exact h1, by rw [hl]; omega, fun i hi => ?_, fun z hz => ?_⟩, fun h r hr => ?_⟩
    · rw [hl] at hi
      obtain ⟨b, o, rfl, hb, hc⟩ := hx i hi
      refine ⟨b, o, rfl, hb, ?_⟩
      rw [hc, List.getD_eq_getElem?_getD, List.getD_eq_getElem?_getD, List.getElem?_take, if_pos hi]
    · exact bounds_i64 (h5 z (List.mem_of_mem_take hz))
    · rw [hl] at h
      obtain ⟨b, o, rfl, hb, _⟩ := hx 0 h
      cases hr; exact hb
/-- Crash(z), the number in a new row. -/
theorem crash_one {d : Nat} {S : DS} {K : Nat → Prop} {gs : List Nat} (z : Int) (w : World) (h : DK w d S K gs) (h0 : -9223372036854775808 ≤ z) (h1 : z ≤ 9223372036854775807) (hl : S.sure.length + S.steps.length ≤ 1000000) :
    Calls Tryd.prog 21 #[.pointer (some ⟨d, 0, none⟩), .slice (some ⟨w.heap.size, 0, none⟩) 1 1] (w.alloc (.cells #[.int .i64 z] 3)) fun e w' => e = .returned (.tuple #[]) ∧ DK w' d (crS S [z]) K gs ∧ Keeps K w w' := by
  refine (crash_any [z] (.slice (some ⟨w.heap.size, 0, none⟩) 1 1) _ (h.new1 (.cells #[.int .i64 z] 3)) (KSl_one w z h0 h1) (fun _ r hr => by cases hr; exact .inr rfl) hl).mono ?_
  rintro e w' ⟨e1, e2, e3⟩
  exact ⟨e1, e2.less (fun k hk => .inl hk), ((Keeps.refl K w).alloc h.Kb _).trans (e3.mono (fun k hk => .inl hk))⟩
end Go.Proofs.YtmjfcneofpddiaaDoor
