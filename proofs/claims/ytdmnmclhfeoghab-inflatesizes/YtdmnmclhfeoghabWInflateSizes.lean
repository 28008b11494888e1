/- InflateSizes: the walk. -/
import Derived.Test.YtdmnmclhfeoghabRSiz
namespace Go.Proofs.Ytdmnmclhfeoghab
open Go.RowKit
set_option linter.unusedVariables false

theorem szF_far (i : Nat) (far : Bool) (h : 29 < i) : szF i far = (0, 0) := by
  unfold szF
  cases far
  · rw [if_neg (by decide), if_pos (by omega)]
  · rw [if_pos rfl, if_neg (by omega)]
theorem nc_cell {w : World} {g : Nat} {l : List Nat} {k x : Nat} (h : w.heap[g]? = some (.cells (nc l).toArray 3 (0, 0))) (hk : l[k]? = some x) : w.cell? ⟨g, k, none⟩ = some (.int .i64 (x : Int)) := by
  rw [cell_of_row _ _ _ _ _ _ h, List.getElem?_toArray]
  unfold nc
  rw [List.getElem?_map, hk]; rfl
theorem nc_get (l : List Nat) (k x : Nat) (hk : l[k]? = some x) : (nc l)[k]? = some (.int .i64 (x : Int)) := by
  unfold nc; rw [List.getElem?_map, hk]; rfl
set_option maxRecDepth 100000 in
set_option maxHeartbeats 4000000 in
theorem lawInflateSizes_walk (i : Int) (w : World) (hb : -9223372036854775808 ≤ i ∧ i ≤ 9223372036854775807) :
    Calls Try.prog 4 #[.int .i64 i] w fun e w' => e = .returned (.bool true) ∧ Below w.heap.size w w' := by
  have HL : Hid (Calls _ _ _ _ _) := lengths_any w
  have HF : Hid (∀ W, Calls Try.prog 17 #[] W fun e w' => ∃ v u, e = .returned (.tuple #[v, u]) ∧ w'.ownsRow W.heap.size 3 1 v 288 (nc fixL) ∧ w'.ownsRow W.heap.size 3 1 u 32 (nc fixD) ∧ Below W.heap.size W w') := rFixed_any
  go_enter Try.func4, Try.ntmps4
  go_wp2_with fail
  refine (Hid.out HL : Calls _ _ _ _ _).mono ?_
  rintro e w1 ⟨v1, u1, rfl, o1, p1, b1⟩
  clear HL
  obtain ⟨g1, c1, rfl, _, _, hg1⟩ := own_form o1 (by decide)
  obtain ⟨g2, c2, rfl, _, _, hg2⟩ := own_form p1 (by decide)
  go_wp2_with fail
  refine (HF.out w1).mono ?_
  rintro e w2 ⟨v2, u2, rfl, o2, p2, b2⟩
  clear HF
  obtain ⟨g3, c3, rfl, _, _, hg3⟩ := own_form o2 (by decide)
  obtain ⟨g4, c4, rfl, _, _, hg4⟩ := own_form p2 (by decide)
  go_wp2_with fail
  refine (awake6_any w2).mono ?_
  rintro e w3 ⟨rfl, b3⟩
  have HOA : Hid (∀ W, Below w3.heap.size w3 W → ∀ k x : Nat, fixL[k]? = some x → W.cell? ⟨g1, k, none⟩ = some (.int .i64 (x : Int)) ∧ W.cell? ⟨g3, k, none⟩ = some (.int .i64 (x : Int))) := by
    intro W hb k x hx
    have hk : k < 288 := by
      have := (List.getElem?_eq_some_iff.1 hx).1
      have h288 : fixL.length = 288 := by decide +kernel
      omega
    have q1 := own_below (own_below (own_below o1 b2) b3) hb
    have q2 := own_below (own_below o2 b3) hb
    exact ⟨by rw [q1.cellAt k (by omega), nc_get _ _ _ hx], by rw [q2.cellAt k (by omega), nc_get _ _ _ hx]⟩
  have HOB : Hid (∀ W, Below w3.heap.size w3 W → ∀ k, k < 32 → W.cell? ⟨g2, k, none⟩ = some (.int .i64 5) ∧ W.cell? ⟨g4, k, none⟩ = some (.int .i64 5)) := by
    intro W hb k hk
    have q1 := own_below (own_below (own_below p1 b2) b3) hb
    have q2 := own_below (own_below p2 b3) hb
    exact ⟨by rw [q1.cellAt k (by omega), nc_get _ _ _ (fixD_at k hk)]; rfl, by rw [q2.cellAt k (by omega), nc_get _ _ _ (fixD_at k hk)]; rfl⟩
  have HB3 : Hid (Below w.heap.size w w3) := (b1.trans (b2.mono b1.size)).trans (b3.mono (b1.trans (b2.mono b1.size)).size)
  clear o1 p1 o2 p2 b1 b2 b3 hg1 hg2 hg3 hg4
  go_wp2
  go_loopw [43] (fun j wr => ∃ k : Nat, k ≤ 288 ∧ j = .int .i64 (k : Int) ∧ Below w3.heap.size w3 wr) (fun j _ => 288 - (intOf j).toNat)
  case atStart => exact ⟨0, by omega, rfl, Below.refl _ _⟩
  case round =>
    obtain ⟨k, hk, rfl, hB⟩ := hrel
    have HB : Hid (Below w3.heap.size w3 wr) := hB
    clear hB
    by_cases hlt : k < 288
    · obtain ⟨x, hx⟩ : ∃ x, fixL[k]? = some x := ⟨_, fixL_at k hlt⟩
      obtain ⟨a1, a2⟩ := HOA.out wr HB.out k x hx
      have hlti : (k : Int) < 288 := by omega
      have hk0 : (0 : Int) ≤ (k : Int) := by omega
      clear hx
      by_cases h32 : k < 32
      · obtain ⟨a3, a4⟩ := HOB.out wr HB.out k h32
        have h32i : (k : Int) < 32 := by omega
        have d1 : decide ((k : Int) < 32) = true := by simpa using h32i
        go_wp2
        go_quiet (fail)
        go_wp2
        go_roundw
        case rel => exact ⟨k + 1, by omega, by go_num, below_drewN HB.out _⟩
        case measure => simp [intOf]; omega
      · have h32i : ¬ (k : Int) < 32 := by omega
        have d1 : decide ((k : Int) < 32) = false := by simpa using h32i
        go_wp2
        go_quiet (fail)
        go_wp2
        go_roundw
        case rel => exact ⟨k + 1, by omega, by go_num, below_drewN HB.out _⟩
        case measure => simp [intOf]; omega
    · obtain rfl : k = 288 := by omega
      have HBW : Hid (Below w.heap.size w wr) := HB3.out.trans (HB.out.mono HB3.out.size)
      clear HB HB3 HOA HOB
      have HS : Hid (Calls _ _ _ _ _) := rSizes_any wr
      go_wp2_with fail
      refine (Hid.out HS : Calls _ _ _ _ _).mono ?_
      rintro e w5 ⟨rfl, rfl⟩
      clear HS
      have hA0 : Below wr.heap.size wr (wr.alloc (.cells (nc szA).toArray 3)) := (Below.refl _ wr).alloc (Nat.le_refl _) _
      have HW5 : Hid (Below wr.heap.size wr ((((wr.alloc (.cells (nc szA).toArray 3)).alloc (.cells (nc szB).toArray 3)).alloc (.cells (nc szC).toArray 3)).alloc (.cells (nc szD).toArray 3))) := ((hA0.alloc (by simp) _).alloc (by simp <;> omega) _).alloc (by simp <;> omega) _
      have HQA : Hid (((((wr.alloc (.cells (nc szA).toArray 3)).alloc (.cells (nc szB).toArray 3)).alloc (.cells (nc szC).toArray 3)).alloc (.cells (nc szD).toArray 3)).heap[wr.heap.size]? = some (.cells (nc szA).toArray 3 (0, 0))) := by
        unfold Hid
        rw [heap_alloc_old _ _ (by simp <;> omega), heap_alloc_old _ _ (by simp <;> omega), heap_alloc_old _ _ (by simp)]
        exact heap_alloc_new wr _
      have HQB : Hid (((((wr.alloc (.cells (nc szA).toArray 3)).alloc (.cells (nc szB).toArray 3)).alloc (.cells (nc szC).toArray 3)).alloc (.cells (nc szD).toArray 3)).heap[wr.heap.size + 1]? = some (.cells (nc szB).toArray 3 (0, 0))) := by
        unfold Hid
        rw [heap_alloc_old _ _ (by simp <;> omega), heap_alloc_old _ _ (by simp)]
        have := heap_alloc_new (wr.alloc (.cells (nc szA).toArray 3)) (.cells (nc szB).toArray 3)
        rw [World.size_alloc] at this
        exact this
      have HQC : Hid (((((wr.alloc (.cells (nc szA).toArray 3)).alloc (.cells (nc szB).toArray 3)).alloc (.cells (nc szC).toArray 3)).alloc (.cells (nc szD).toArray 3)).heap[wr.heap.size + 2]? = some (.cells (nc szC).toArray 3 (0, 0))) := by
        unfold Hid
        rw [heap_alloc_old _ _ (by simp)]
        have := heap_alloc_new ((wr.alloc (.cells (nc szA).toArray 3)).alloc (.cells (nc szB).toArray 3)) (.cells (nc szC).toArray 3)
        rw [World.size_alloc, World.size_alloc] at this
        exact this
      have HQD : Hid (((((wr.alloc (.cells (nc szA).toArray 3)).alloc (.cells (nc szB).toArray 3)).alloc (.cells (nc szC).toArray 3)).alloc (.cells (nc szD).toArray 3)).heap[wr.heap.size + 3]? = some (.cells (nc szD).toArray 3 (0, 0))) := by
        unfold Hid
        have := heap_alloc_new (((wr.alloc (.cells (nc szA).toArray 3)).alloc (.cells (nc szB).toArray 3)).alloc (.cells (nc szC).toArray 3)) (.cells (nc szD).toArray 3)
        rw [World.size_alloc, World.size_alloc, World.size_alloc] at this
        exact this
      clear hA0
      generalize World.alloc (World.alloc (World.alloc (World.alloc wr _) _) _) _ = W5 at *
      have HB5 : Hid (Below w.heap.size w W5) := HBW.out.trans (HW5.out.mono HBW.out.size)
      clear HW5 HBW
      generalize wr.heap.size = G at *
      by_cases hneg : i < 0
      · have HS1 : Hid (Calls _ _ _ _ _) := size_neg i false W5 hneg
        have HS2 : Hid (Calls _ _ _ _ _) := size_neg i true W5 hneg
        clear HQA HQB HQC HQD
        go_wp2_with fail
        refine (Hid.out HS1 : Calls _ _ _ _ _).mono ?_
        rintro e w6 ⟨rfl, hw6⟩
        obtain rfl : W5 = w6 := hw6.symm
        go_wp2_with fail
        refine (Hid.out HS2 : Calls _ _ _ _ _).mono ?_
        rintro e w7 ⟨rfl, hw7⟩
        obtain rfl : W5 = w7 := hw7.symm
        clear hw6 hw7 HS1 HS2
        go_wp2
        go_ret
        exact ⟨rfl, HB5.out⟩
      · obtain ⟨n, rfl⟩ : ∃ n : Nat, i = (n : Int) := ⟨i.toNat, by omega⟩
        have HS1 : Hid (Calls _ _ _ _ _) := size_any n false W5
        have HS2 : Hid (Calls _ _ _ _ _) := size_any n true W5
        by_cases h29 : 29 < n
        · rw [szF_far n false h29] at HS1
          rw [szF_far n true h29] at HS2
          have h29i : (29 : Int) < (n : Int) := by omega
          clear HQA HQB HQC HQD
          go_wp2_with fail
          refine (Hid.out HS1 : Calls _ _ _ _ _).mono ?_
          rintro e w6 ⟨rfl, hw6⟩
          obtain rfl : W5 = w6 := hw6.symm
          go_wp2_with fail
          refine (Hid.out HS2 : Calls _ _ _ _ _).mono ?_
          rintro e w7 ⟨rfl, hw7⟩
          obtain rfl : W5 = w7 := hw7.symm
          clear hw6 hw7 HS1 HS2
          go_wp2
          go_ret
          exact ⟨rfl, HB5.out⟩
        · have h29i : ¬ (29 : Int) < (n : Int) := by omega
          obtain ⟨c3, c4⟩ := szCD ⟨n, by omega⟩
          simp only at c3 c4
          have HO6 : Hid (Calls _ _ _ _ _) := order_any W5
          have HB6 : Hid (Below w.heap.size w (W5.alloc (.cells (nc ordL).toArray 3))) := HB5.out.alloc HB5.out.size _
          have hA6 : Below W5.heap.size W5 (W5.alloc (.cells (nc ordL).toArray 3)) := (Below.refl _ _).alloc (Nat.le_refl _) _
          have e3 := nc_cell ((hA6.block _ (Array.getElem?_eq_some_iff.1 HQC.out).1).trans HQC.out) c3
          have e4 := nc_cell ((hA6.block _ (Array.getElem?_eq_some_iff.1 HQD.out).1).trans HQD.out) c4
          have hN6 := heap_alloc_new W5 (.cells (nc ordL).toArray 3)
          have q0 := nc_cell (k := 0) (x := 16) hN6 rfl
          have q4 := nc_cell (k := 4) (x := 8) hN6 rfl
          have q18 := nc_cell (k := 18) (x := 15) hN6 rfl
          by_cases hn : n = 29
          · subst hn
            have hz : szF 29 false = (0, 0) := by decide
            rw [hz] at HS1
            clear HQA HQB HQC HQD hA6 hN6 c3 c4 hz
            generalize szF 29 true = z at *
            obtain ⟨z1, z2⟩ := z
            go_wp2_with fail
            refine (Hid.out HS1 : Calls _ _ _ _ _).mono ?_
            rintro e w6 ⟨rfl, hw6⟩
            obtain rfl : W5 = w6 := hw6.symm
            go_wp2_with fail
            refine (Hid.out HS2 : Calls _ _ _ _ _).mono ?_
            rintro e w7 ⟨rfl, hw7⟩
            obtain rfl : W5 = w7 := hw7.symm
            clear hw6 hw7 HS1 HS2
            go_wp2_with fail
            refine (Hid.out HO6 : Calls _ _ _ _ _).mono ?_
            rintro e w8 ⟨rfl, hw8⟩
            subst hw8
            clear HO6
            go_wp2
            go_ret
            exact ⟨rfl, HB6.out⟩
          · obtain ⟨c1, c2⟩ := szAB ⟨n, by omega⟩
            simp only at c1 c2
            have e1 := nc_cell HQA.out c1
            have e2 := nc_cell HQB.out c2
            have hni : ((n : Int) == 29) = false := by simp; omega
            have hlt29 : (n : Int) < 29 := by omega
            have hd29 : decide ((n : Int) < 29) = true := by simpa using hlt29
            clear HQA HQB HQC HQD hA6 hN6 c1 c2 c3 c4
            generalize szF n true = z at *
            generalize szF n false = y at *
            obtain ⟨z1, z2⟩ := z
            obtain ⟨y1, y2⟩ := y
            go_wp2_with fail
            refine (Hid.out HS1 : Calls _ _ _ _ _).mono ?_
            rintro e w6 ⟨rfl, hw6⟩
            obtain rfl : W5 = w6 := hw6.symm
            go_wp2_with fail
            refine (Hid.out HS2 : Calls _ _ _ _ _).mono ?_
            rintro e w7 ⟨rfl, hw7⟩
            obtain rfl : W5 = w7 := hw7.symm
            clear hw6 hw7 HS1 HS2
            go_wp2_with fail
            refine (Hid.out HO6 : Calls _ _ _ _ _).mono ?_
            rintro e w8 ⟨rfl, hw8⟩
            subst hw8
            clear HO6
            go_wp2
            go_ret
            exact ⟨rfl, HB6.out⟩
end Go.Proofs.Ytdmnmclhfeoghab
