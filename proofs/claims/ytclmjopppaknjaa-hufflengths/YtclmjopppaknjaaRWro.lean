/- Contract of the law's own wrong; huff.Lengths where it refuses. -/
import Derived.Test.YtclmjopppaknjaaHLen
namespace Go.Proofs.Ytclmjopppaknjaa
open Go.RowKit
set_option linter.unusedVariables false
set_option linter.unusedSimpArgs false

/-- The error that the document asks for. -/
def wrongN (zs : List Int) (q : Int) : Nat := if chkC zs q = 0 then (if 2 ^ q.toNat < (posL zs zs.length).length then 4 else 0) else chkC zs q
theorem wrap_pow (m : Nat) (h : m ≤ 15) : wrap64 ((2 : Int) ^ m) = ((2 ^ m : Nat) : Int) := by
  have h2m : 2 ^ m ≤ 2 ^ 15 := Nat.pow_le_pow_right (by decide) h
  rw [show (2 : Int) ^ m = ((2 ^ m : Nat) : Int) by simp]
  generalize 2 ^ m = P at *
  unfold wrap64
  omega
set_option maxRecDepth 100000 in
set_option maxHeartbeats 1000000 in
theorem wrong_any (v : Value) (zs : List Int) (q : Int) (w : World) (hR : IQ w v zs) (hl : zs.length ≤ 400) :
    Calls Try.prog 8 #[v, .int .i64 q] w fun e w' => e = .returned (.int .i64 (wrongN zs q : Int)) ∧ w' = w := by
  obtain ⟨g, o, cap, rfl, hg, hc⟩ := hR
  have HC : Hid (∀ i, i < zs.length → w.cell? ⟨g, o + i, none⟩ = some (.int .i64 (zs.getD i 0))) := hc
  clear hc
  by_cases h1 : 320 < zs.length
  · have HE : Hid (wrongN zs q = 2) := by unfold Hid wrongN; rw [chkC_big h1]; rfl
    have h1i : (320 : Int) < (zs.length : Int) := by omega
    generalize wrongN zs q = R at *
    go_enter Try.func8, Try.ntmps8
    go_wp2
    go_ret
    exact ⟨by rw [HE.out]; rfl, rfl⟩
  · have h1i : ¬ (320 : Int) < (zs.length : Int) := by omega
    by_cases h2 : q < 1 ∨ 15 < q
    · have HE : Hid (wrongN zs q = 1) := by
        unfold Hid wrongN
        have : chkC zs q = 1 := by unfold chkC; rw [if_neg h1, if_pos h2]
        rw [this]; rfl
      generalize wrongN zs q = R at *
      by_cases h3 : q < 1
      · go_enter Try.func8, Try.ntmps8
        go_wp2
        go_ret
        exact ⟨by rw [HE.out]; rfl, rfl⟩
      · have h4 : 15 < q := by omega
        go_enter Try.func8, Try.ntmps8
        go_wp2
        go_ret
        exact ⟨by rw [HE.out]; rfl, rfl⟩
    · obtain ⟨m, rfl⟩ : ∃ m : Nat, q = (m : Int) := ⟨q.toNat, by omega⟩
      have hq1 : ¬ (m : Int) < 1 := by omega
      have hq2 : ¬ 15 < (m : Int) := by omega
      have hwr := wrap_pow m (by omega)
      have hmn : ((m : Int)).toNat = m := by omega
      have hm0 : (0 : Int) ≤ (m : Int) := by omega
      have HBAD : Hid (∀ k, k < zs.length → (zs.getD k 0 < 0 ∨ 1000000 < zs.getD k 0) → wrongN zs (m : Int) = 1) := fun k hk hz => by
        unfold wrongN
        have : chkC zs (m : Int) = 1 := by
          unfold chkC
          rw [if_neg h1, if_neg h2, if_pos ⟨zs.getD k 0, by rw [List.getD_eq_getElem?_getD, List.getElem?_eq_getElem hk]; simp, hz⟩]
        rw [this]; rfl
      have HGOOD : Hid ((∀ k, k < zs.length → ¬ (zs.getD k 0 < 0 ∨ 1000000 < zs.getD k 0)) → wrongN zs (m : Int) = if 2 ^ m < (posL zs zs.length).length then 4 else 0) := fun h => by
        unfold wrongN
        have : chkC zs (m : Int) = 0 := by
          unfold chkC
          rw [if_neg h1, if_neg h2, if_neg]
          rintro ⟨z, hz, hb⟩
          obtain ⟨k, hk, rfl⟩ := List.mem_iff_getElem.1 hz
          refine h k hk ?_
          rw [List.getD_eq_getElem?_getD, List.getElem?_eq_getElem hk]; exact hb
        rw [if_pos this, hmn]
      generalize wrongN zs (m : Int) = R at *
      go_enter Try.func8, Try.ntmps8
      go_wp2
      go_loop [5, 19] (fun s i => ∃ k : Nat, k ≤ zs.length ∧ i = .int .i64 (k : Int) ∧ s = .int .i64 ((posL zs k).length : Int) ∧ ∀ j, j < k → ¬ (zs.getD j 0 < 0 ∨ 1000000 < zs.getD j 0)) (fun _ i => zs.length - (intOf i).toNat)
      case atStart => exact ⟨0, by omega, rfl, rfl, fun j hj => by omega⟩
      case round =>
        obtain ⟨k, hk, rfl, rfl, hok⟩ := hrel
        have hpl := posL_len zs k
        by_cases hlt : k < zs.length
        · have hki : (k : Int) < (zs.length : Int) := by omega
          have hck := HC.out k hlt
          have HB := HBAD.out k hlt
          have HY : Hid (0 < zs.getD k 0 → (posL zs (k + 1)).length = (posL zs k).length + 1) := fun h => by rw [posL_yes h, List.length_append]; rfl
          have HN : Hid (¬ 0 < zs.getD k 0 → (posL zs (k + 1)).length = (posL zs k).length) := fun h => by rw [posL_no h]
          have HOK : Hid (¬ (zs.getD k 0 < 0 ∨ 1000000 < zs.getD k 0) → ∀ j, j < k + 1 → ¬ (zs.getD j 0 < 0 ∨ 1000000 < zs.getD j 0)) := fun h j hj => by
            by_cases e : j = k
            · subst e; exact h
            · exact hok j (by omega)
          have HBH : Hid _ := HB
          clear HB hok
          generalize zs.getD k 0 = z at *
          generalize (posL zs k).length = c at *
          by_cases hz1 : z < 0
          · go_wp2
            go_ret
            exact ⟨by rw [HBH.out (.inl hz1)]; rfl, rfl⟩
          · by_cases hz2 : 1000000 < z
            · go_wp2
              go_ret
              exact ⟨by rw [HBH.out (.inr hz2)]; rfl, rfl⟩
            · by_cases hz3 : 0 < z
              · go_wp2
                go_round
                case rel => exact ⟨k + 1, by omega, by go_num, by rw [HY.out hz3]; go_num, HOK.out (by omega)⟩
                case measure => simp [intOf]; omega
              · go_wp2
                go_round
                case rel => exact ⟨k + 1, by omega, by go_num, by rw [HN.out hz3], HOK.out (by omega)⟩
                case measure => simp [intOf]; omega
        · obtain rfl : k = zs.length := by omega
          have hR := HGOOD.out hok
          by_cases hc4 : 2 ^ m < (posL zs zs.length).length
          · rw [if_pos hc4] at hR
            have hci : ((2 ^ m : Nat) : Int) < ((posL zs zs.length).length : Int) := by omega
            have HR : Hid _ := hR
            clear hR hc4 HGOOD HBAD
            generalize (posL zs zs.length).length = c at *
            generalize 2 ^ m = P at *
            go_wp2
            go_ret
            exact ⟨by rw [HR.out]; rfl, rfl⟩
          · rw [if_neg hc4] at hR
            have hci : ¬ ((2 ^ m : Nat) : Int) < ((posL zs zs.length).length : Int) := by omega
            have HR : Hid _ := hR
            clear hR hc4 HGOOD HBAD
            generalize (posL zs zs.length).length = c at *
            generalize 2 ^ m = P at *
            go_wp2
            go_ret
            exact ⟨by rw [HR.out]; rfl, rfl⟩
set_option maxRecDepth 100000 in
set_option maxHeartbeats 1000000 in
theorem lengths_wrong (v : Value) (zs : List Int) (q : Int) (w : World) (hR : IQ w v zs) (hl : zs.length ≤ 400) (he : wrongN zs q ≠ 0) :
    Calls Try.prog 7 #[v, .int .i64 q] w fun e w' => e = .returned (.tuple #[.slice none 0 0, .int .i64 (wrongN zs q : Int)]) ∧ Below w.heap.size w w' := by
  have HCK : Hid (Calls _ _ _ _ _) := chkC_any v zs q w hR (by omega)
  by_cases hk : chkC zs q = 0
  · obtain ⟨h320, hm1, hm15, _⟩ := chkC_zero hk
    have HRS : Hid (Calls _ _ _ _ _) := rising_any v zs w hR h320
    obtain ⟨m, rfl⟩ : ∃ m : Nat, q = (m : Int) := ⟨q.toNat, by omega⟩
    have hmn : ((m : Int)).toNat = m := by omega
    have hm0 : (0 : Int) ≤ (m : Int) := by omega
    have hwr := wrap_pow m (by omega)
    have hgt : 2 ^ m < (posL zs zs.length).length := by
      unfold wrongN at he
      rw [if_pos hk, hmn] at he
      by_cases q : 2 ^ m < (posL zs zs.length).length
      · exact q
      · rw [if_neg q] at he; exact absurd rfl he
    have HW : Hid (wrongN zs (m : Int) = 4) := by unfold Hid wrongN; rw [if_pos hk, hmn, if_pos hgt]
    rw [hk] at HCK
    obtain ⟨g, o, cap, rfl, hg, hc⟩ := hR
    clear hc he
    generalize wrongN zs (m : Int) = R at *
    go_enter Try.func7, Try.ntmps7
    go_wp2_with fail
    refine (Hid.out HCK : Calls _ _ _ _ _).mono ?_
    rintro e w1 ⟨rfl, hw1⟩
    obtain rfl := hw1.symm
    go_wp2_with fail
    refine (Hid.out HRS : Calls _ _ _ _ _).mono ?_
    rintro e w1 ⟨u, ss, rfl, hris, hown, hb1⟩
    obtain ⟨a, cu, rfl⟩ := own_sliceH hown
    have hci : ((2 ^ m : Nat) : Int) < (ss.length : Int) := by rw [hris.perm.length_eq]; omega
    clear HCK HRS hown hris hgt
    generalize 2 ^ m = P at *
    go_wp2
    go_ret2
    exact ⟨by rw [HW.out]; rfl, hb1⟩
  · have HW : Hid (wrongN zs q = chkC zs q) := by unfold Hid wrongN; rw [if_neg hk]
    rw [HW.out]
    obtain ⟨g, o, cap, rfl, hg, hc⟩ := hR
    clear hc he HW
    have hki : ¬ (chkC zs q : Int) = 0 := by omega
    generalize chkC zs q = E at *
    go_enter Try.func7, Try.ntmps7
    go_wp2_with fail
    refine (Hid.out HCK : Calls _ _ _ _ _).mono ?_
    rintro e w1 ⟨rfl, hw1⟩
    obtain rfl := hw1.symm
    go_wp2
    go_ret2
    exact ⟨rfl, Below.refl _ _⟩
end Go.Proofs.Ytclmjopppaknjaa
