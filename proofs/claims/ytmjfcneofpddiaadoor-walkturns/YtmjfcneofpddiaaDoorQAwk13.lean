/- What the document fixes of layer 13. -/
import Derived.Test.YtmjfcneofpddiaaDoorQWkG
namespace Go.Proofs.YtmjfcneofpddiaaDoor
open Go.RowKit Go.Maps
set_option linter.unusedVariables false
set_option linter.unusedSimpArgs false

theorem cells5 {w : World} {b : Nat} {T : TypeId} {a0 a1 a2 a3 a4 : Value} (h : w.heap[b]? = some (.cells #[a0, a1, a2, a3, a4] T (0, 0))) : w.cell? ⟨b, 0, none⟩ = some a0 ∧ w.cell? ⟨b, 1, none⟩ = some a1 ∧ w.cell? ⟨b, 2, none⟩ = some a2 ∧ w.cell? ⟨b, 3, none⟩ = some a3 ∧ w.cell? ⟨b, 4, none⟩ = some a4 := by
  refine ⟨?_, ?_, ?_, ?_, ?_⟩ <;> · unfold World.cell?; rw [h]; rfl
set_option maxRecDepth 100000 in
set_option maxHeartbeats 4000000 in
theorem awake13_any (w : World) (hL : Lay11 w) : Calls Tryd.prog 8 #[] w fun e w' => e = .returned (.bool true) ∧ Below w.heap.size w w' := by
  have hzo := zeroIt
  have HC1 : Hid (∀ W b, Below w.heap.size w W → W.heap[b]? = some (.cells #[.string ⟨#[97, 47, 98]⟩, .int .i64 2, .int .i64 0, .int .i64 0, .string ⟨#[]⟩] 25 (0, 0)) → Calls Tryd.prog 7 #[.slice (some ⟨b, 0, none⟩) 1 1] W fun e w' => e = .returned (.int .i64 7) ∧ Below W.heap.size W w') := by
    intro W b hb hh
    refine (check_any (.slice (some ⟨b, 0, none⟩) 1 1) [fileI] W (iv_made [fileI] hh rfl) (fun x hx => by rw [List.mem_singleton] at hx; subst hx; decide) (hL.below hb) (by decide)).mono ?_
    rintro e w' ⟨z, rfl, hz, hb'⟩
    rw [chk_file hz]
    exact ⟨rfl, hb'⟩
  have HC2 : Hid (∀ W b, Below w.heap.size w W → W.heap[b]? = some (.cells #[.string ⟨#[97, 47, 98]⟩, .int .i64 2, .int .i64 0, .int .i64 0, .string ⟨#[]⟩, .string ⟨#[97]⟩, .int .i64 1, .int .i64 0, .int .i64 0, .string ⟨#[]⟩] 25 (0, 0)) → Calls Tryd.prog 7 #[.slice (some ⟨b, 0, none⟩) 2 2] W fun e w' => e = .returned (.int .i64 0) ∧ Below W.heap.size W w') := by
    intro W b hb hh
    refine (check_any (.slice (some ⟨b, 0, none⟩) 2 2) [fileI, dirI] W (iv_made [fileI, dirI] hh rfl) (fun x hx => by
      rcases List.mem_cons.1 hx with rfl | hx
      · decide
      · rw [List.mem_singleton] at hx; subst hx; decide) (hL.below hb) (by decide)).mono ?_
    rintro e w' ⟨z, rfl, hz, hb'⟩
    rw [chk_both hz]
    exact ⟨rfl, hb'⟩
  have HC3 : Hid (∀ W b, W.heap[b]? = some (.cells #[.string ⟨#[]⟩, .int .i64 2, .int .i64 0, .int .i64 0, .string ⟨#[120, 121, 122]⟩, .string ⟨#[97]⟩, .int .i64 1, .int .i64 0, .int .i64 0, .string ⟨#[]⟩] 25 (0, 0)) → Calls Tryd.prog 14 #[.slice (some ⟨b, 0, none⟩) 2 2] W fun e w' => e = .returned (.int .i64 3) ∧ Below W.heap.size W w') := by
    intro W b hh
    exact size_any (.slice (some ⟨b, 0, none⟩) 2 2) [⟨[], 2, 0, 0, [120, 121, 122]⟩, dirI] W (iv_made [⟨[], 2, 0, 0, [120, 121, 122]⟩, dirI] hh rfl) (by decide) (by decide)
  clear hL
  go_enter Tryd.func8, Tryd.ntmps8
  go_wp2_with fail
  obtain ⟨cD, hcD⟩ : ∃ c, c = Obj.cells #[Value.string ⟨#[97]⟩, Value.int .i64 1, Value.int .i64 0, Value.int .i64 0, Value.string ⟨#[]⟩] 25 (0, 0) := ⟨_, rfl⟩
  obtain ⟨cF, hcF⟩ : ∃ c, c = Obj.cells #[Value.string ⟨#[97, 47, 98]⟩, Value.int .i64 2, Value.int .i64 0, Value.int .i64 0, Value.string ⟨#[]⟩] 25 (0, 0) := ⟨_, rfl⟩
  rw [← hcD, ← hcF]
  have hb3 : Below w.heap.size w (((w.alloc cD).alloc cF).alloc cF) := (((Below.refl _ _).alloc (Nat.le_refl _) _).alloc (by simp) _).alloc (by simp; omega) _
  have hs2 : ((w.alloc cD).alloc cF).heap.size = w.heap.size + 1 + 1 := by simp
  have hn3 : (((w.alloc cD).alloc cF).alloc cF).heap[w.heap.size + 1 + 1]? = some cF := by have := heap_alloc_new ((w.alloc cD).alloc cF) cF; rwa [hs2] at this
  have hdD : (((w.alloc cD).alloc cF).alloc cF).heap[w.heap.size]? = some cD := by
    have b1 : Below (w.alloc cD).heap.size (w.alloc cD) (((w.alloc cD).alloc cF).alloc cF) := ((Below.refl _ _).alloc (Nat.le_refl _) _).alloc (by simp) _
    rw [b1.block w.heap.size (by simp)]; exact heap_alloc_new w cD
  have hdF : (((w.alloc cD).alloc cF).alloc cF).heap[w.heap.size + 1]? = some cF := by
    have b1 : Below ((w.alloc cD).alloc cF).heap.size ((w.alloc cD).alloc cF) (((w.alloc cD).alloc cF).alloc cF) := (Below.refl _ _).alloc (Nat.le_refl _) _
    rw [b1.block (w.heap.size + 1) (by simp)]
    have := heap_alloc_new (w.alloc cD) cF
    rwa [show (w.alloc cD).heap.size = w.heap.size + 1 by simp] at this
  have hs3 : (((w.alloc cD).alloc cF).alloc cF).heap.size = w.heap.size + 1 + 1 + 1 := by simp
  refine (HC1.out _ _ hb3 (by rw [hn3, hcF])).mono ?_
  rintro e w4 ⟨rfl, hb4⟩
  have hD4 : w4.heap[w.heap.size]? = some cD := (hb4.block _ (by rw [hs3]; omega)).trans hdD
  have hF4 : w4.heap[w.heap.size + 1]? = some cF := (hb4.block _ (by rw [hs3]; omega)).trans hdF
  have HB4 : Hid (Below w.heap.size w w4) := hb3.trans (hb4.mono (by rw [hs3]; omega))
  have hs4 : w.heap.size + 1 < w4.heap.size := Nat.lt_of_lt_of_le (by rw [hs3]; omega) hb4.size
  rw [hcD] at hD4
  rw [hcF] at hF4
  clear hb3 hs2 hn3 hdD hdF hs3 hb4 hcD hcF HC1
  have HD4 : Hid (w4.heap[w.heap.size]? = some _) := hD4
  obtain ⟨d0, d1, d2, d3, d4⟩ := cells5 hD4
  obtain ⟨f0, f1, f2, f3, f4⟩ := cells5 hF4
  clear hD4 hF4
  go_wp2_with fail
  obtain ⟨c2, hc2⟩ : ∃ c, c = Obj.cells #[Value.string ⟨#[97, 47, 98]⟩, Value.int .i64 2, Value.int .i64 0, Value.int .i64 0, Value.string ⟨#[]⟩, Value.string ⟨#[97]⟩, Value.int .i64 1, Value.int .i64 0, Value.int .i64 0, Value.string ⟨#[]⟩] 25 (0, 0) := ⟨_, rfl⟩
  rw [← hc2]
  refine (HC2.out _ _ (HB4.out.alloc HB4.out.size _) (by rw [heap_alloc_new, hc2])).mono ?_
  rintro e w5 ⟨rfl, hb5⟩
  have hb45 : Below w4.heap.size w4 w5 := ((Below.refl _ _).alloc (Nat.le_refl _) _).trans (hb5.mono (by simp))
  have HB5 : Hid (Below w.heap.size w w5) := HB4.out.trans (hb45.mono HB4.out.size)
  have hD5 := (hb45.block w.heap.size (by omega)).trans HD4.out
  obtain ⟨k0, k1, k2, k3, k4⟩ := cells5 hD5
  clear hb5 hb45 hD5 d0 d1 d2 d3 d4 f0 f1 f2 f3 f4 HC2 hc2 HD4
  go_wp2_with fail
  refine (HC3.out _ _ (by rw [heap_alloc_new])).mono ?_
  rintro e w6 ⟨rfl, hb6⟩
  have HB6 : Hid (Below w.heap.size w w6) := (HB5.out.alloc HB5.out.size _).trans (hb6.mono (by have := HB5.out.size; simp; omega))
  clear hb6 HC3 k0 k1 k2 k3 k4
  go_wp2
  go_ret
  exact ⟨rfl, HB6.out⟩
end Go.Proofs.YtmjfcneofpddiaaDoor
