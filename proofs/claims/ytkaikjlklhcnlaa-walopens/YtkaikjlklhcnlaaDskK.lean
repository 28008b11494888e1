/- Contract: the number of keeps (the closure of Crash). -/
import Derived.Test.YtkaikjlklhcnlaaDskJ
namespace Go.Proofs.Ytkaikjlklhcnlaa
open Go.RowKit Go.Maps
set_option linter.unusedVariables false
set_option linter.unusedSimpArgs false

/-- v is a slice that shows these numbers. -/
def KSl (w : World) (v : Value) (ks : List Int) : Prop :=
  ∃ a cap, v = .slice a ks.length cap ∧ ks.length ≤ cap ∧ ks.length ≤ 9223372036854775807 ∧ (∀ i, i < ks.length → ∃ b o, a = some ⟨b, o, none⟩ ∧ b < w.heap.size ∧ w.cell? ⟨b, o + i, none⟩ = some (.int .i64 (ks.getD i 0))) ∧ ∀ z ∈ ks, -9223372036854775808 ≤ z ∧ z ≤ 9223372036854775807
theorem KSl.keeps {w w' : World} {K : Nat → Prop} {v : Value} {ks : List Int} (h : KSl w v ks) (hk : Keeps K w w') (hK : 0 < ks.length → ∀ r, v.ownBlock = some r → K r) : KSl w' v ks := by
  obtain ⟨a, cap, rfl, h1, h2, h3, h4⟩ := h
  refine ⟨a, cap, rfl, h1, h2, fun i hi => ?_, h4⟩
  obtain ⟨b, o, rfl, hb, hc⟩ := h3 i hi
  exact ⟨b, o, rfl, Nat.lt_of_lt_of_le hb hk.size, (hk.cell (hK (by omega) b rfl) _).trans hc⟩
theorem KSl.below {w w' : World} {v : Value} {ks : List Int} (h : KSl w v ks) (hb : Below w.heap.size w w') : KSl w' v ks := by
  obtain ⟨a, cap, rfl, h1, h2, h3, h4⟩ := h
  refine ⟨a, cap, rfl, h1, h2, fun i hi => ?_, h4⟩
  obtain ⟨b, o, rfl, hbl, hc⟩ := h3 i hi
  exact ⟨b, o, rfl, Nat.lt_of_lt_of_le hbl hb.size, (hb.cell (p := ⟨b, o + i, none⟩) hbl).trans hc⟩
theorem kpN_range {ks : List Int} (h : ∀ z ∈ ks, -9223372036854775808 ≤ z ∧ z ≤ 9223372036854775807) (i : Nat) : -9223372036854775808 ≤ kpN ks i ∧ kpN ks i ≤ 9223372036854775807 := by
  unfold kpN
  split
  · decide
  · rename_i hne
    have hlt : i % ks.length < ks.length := Nat.mod_lt _ (by omega)
    rw [List.getD_eq_getElem?_getD, List.getElem?_eq_getElem hlt]
    exact h _ (List.getElem_mem _)
set_option maxRecDepth 100000 in
set_option maxHeartbeats 1000000 in
theorem number_any (ks : List Int) (v : Value) (bx i : Nat) (w : World) (h : KSl w v ks) (hb : w.cell? ⟨bx, 0, none⟩ = some v) (hi : i ≤ 4611686018427387904) :
    Calls Try.prog 41 #[.int .i64 (i : Int), .pointer (some ⟨bx, 0, none⟩)] w fun e w' => e = .returned (.int .i64 (kpN ks i)) ∧ ∃ n, w' = w.drewN n := by
  obtain ⟨a, cap, rfl, h1, h2, h3, h4⟩ := h
  by_cases h0 : ks.length = 0
  · have HE : Hid (kpN ks i = 0) := by unfold Hid kpN; rw [if_pos h0]
    rw [h0] at hb
    clear h3 h4 h1 h2 h0
    go_enter Try.func41, Try.ntmps41
    go_wp2
    go_ret
    rw [HE.out]
    exact ⟨rfl, 0, rfl⟩
  have hlt : i % ks.length < ks.length := Nat.mod_lt _ (by omega)
  obtain ⟨b, o, rfl, hbl, hc⟩ := h3 _ hlt
  have HE : Hid (kpN ks i = ks.getD (i % ks.length) 0) := by unfold Hid kpN; rw [if_neg h0]
  have hm : (i : Int).tmod (ks.length : Int) = ((i % ks.length : Nat) : Int) := by rw [Int.tmod_eq_emod_of_nonneg (by omega)]; rfl
  have hz : ((ks.length : Int) == 0) = false := by rw [beq_eq_false_iff_ne]; omega
  have hzn : ¬ (ks.length : Int) = 0 := by omega
  generalize ks.getD (i % ks.length) 0 = z at *
  generalize i % ks.length = j at *
  have hj1 : (j : Int) < (ks.length : Int) := by omega
  have hj0 : (0 : Int) ≤ (j : Int) := by omega
  clear h3 h4 h0
  generalize ks.length = N at *
  go_enter Try.func41, Try.ntmps41
  go_wp2
  go_quiet (fail)
  go_wp2
  go_ret
  rw [HE.out]
  exact ⟨rfl, _, rfl⟩
end Go.Proofs.Ytkaikjlklhcnlaa
