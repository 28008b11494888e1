/- The walk of ChunkerWhole. -/
import Derived.Test.YtnfemofighgenabCnfA
namespace Go.Proofs.Ytnfemofighgenab
open Go.RowKit
set_option linter.unusedVariables false

theorem spl_sizes (mn bt mx : Nat) (s : List UInt8) (hmn : 1 ≤ mn) (hmx : mn ≤ mx) (i : Nat) (hi : i < (spl mn bt mx s).length) :
    (spl mn bt mx s).getD i [] ≠ [] ∧ ((spl mn bt mx s).getD i []).length ≤ mx ∧ (i + 1 < (spl mn bt mx s).length → mn ≤ ((spl mn bt mx s).getD i []).length) := by
  have hz := ckW_sizes mn bt mx hmn hmx s [] [] (by simp; omega)
  have hl := ckW_left mn bt mx (by omega) s [] [] (by simp; omega)
  unfold spl at *
  generalize (ckW mn bt mx [] [] s).1 = C at *
  generalize (ckW mn bt mx [] [] s).2 = P at *
  have hlc := lastC_len P
  rw [List.length_append] at hi
  by_cases h : i < C.length
  · rw [List.getD_eq_getElem?_getD, List.getElem?_append_left h, List.getElem?_eq_getElem h]
    have := hz C[i] (List.getElem_mem h)
    simp only [Option.getD_some]
    refine ⟨fun e => ?_, this.2, fun _ => this.1⟩
    rw [e] at this; simp at this; omega
  · have hP : P ≠ [] := fun e => by subst e; simp [lastC] at hi; omega
    have hL : lastC P = [P] := by unfold lastC; rw [if_neg hP]
    rw [hL] at hi ⊢
    have hi2 : i = C.length := by simp at hi; omega
    subst hi2
    rw [List.getD_eq_getElem?_getD, List.getElem?_append_right (Nat.le_refl _)]
    simp
    exact ⟨hP, by omega⟩
theorem take_flat (l : List (List UInt8)) (k : Nat) (h : k < l.length) : (l.take (k + 1)).flatten = (l.take k).flatten ++ l.getD k [] := by
  rw [List.take_succ_eq_append_getElem h, List.flatten_append]
  simp [List.getD_eq_getElem?_getD, h]
theorem take_flat_len (l : List (List UInt8)) (k : Nat) : (l.take k).flatten.length ≤ l.flatten.length := by
  conv => rhs; rw [← List.take_append_drop k l, List.flatten_append, List.length_append]
  omega
theorem spl_len (mn bt mx : Nat) (s : List UInt8) : (spl mn bt mx s).length ≤ s.length + 1 := by
  unfold spl
  rw [List.length_append]
  have := ckW_len mn bt mx s [] []
  have := lastC_len (ckW mn bt mx [] [] s).2
  omega
set_option maxRecDepth 100000 in
set_option maxHeartbeats 2000000 in
theorem lawChunkerWhole_walk (s : ByteArray) (mn bt mx : Int) (w : World) (hs : s.size ≤ 140737488351232) (hcf : (-9223372036854775808 ≤ mn ∧ mn ≤ 9223372036854775807) ∧ (-9223372036854775808 ≤ bt ∧ bt ≤ 9223372036854775807) ∧ (-9223372036854775808 ≤ mx ∧ mx ≤ 9223372036854775807)) :
    Calls Try.prog 4 #[.string s, .agg #[.int .i64 mn, .int .i64 bt, .int .i64 mx]] w fun e w' => e = .returned (.bool true) ∧ Below w.heap.size w w' := by
  have hfs : (s.extract 0 3000).size ≤ 3000 := by rw [few_size]; omega
  have hN := CnfAt.new w mn bt mx
  have hB0 : Below w.heap.size w (w.alloc (.cells #[.int .i64 mn, .int .i64 bt, .int .i64 mx] 24)) := (Below.refl _ w).alloc (Nat.le_refl _) _
  go_enter Try.func4, Try.ntmps4
  go_wp2_with fail
  refine (few_any s 3000 _ (by decide) (by omega)).mono ?_
  rintro e w0 ⟨rfl, rfl⟩
  rw [show (3000 : Int).toNat = 3000 from rfl]
  generalize s.extract 0 3000 = S at *
  generalize w.alloc (.cells #[.int .i64 mn, .int .i64 bt, .int .i64 mx] 24) = W at *
  obtain ⟨c0, c1, c2⟩ := hN.cells
  go_wp2_with fail
  by_cases he : errC mn bt mx = 0
  · obtain ⟨e1, e2, e3, e4, e5⟩ := errC_zero he
    obtain ⟨mn, rfl⟩ := Int.eq_ofNat_of_zero_le (show 0 ≤ mn by omega)
    obtain ⟨bt, rfl⟩ := Int.eq_ofNat_of_zero_le e3
    obtain ⟨mx, rfl⟩ := Int.eq_ofNat_of_zero_le (show 0 ≤ mx by omega)
    refine (split_good S mn bt mx _ he (by omega)).mono ?_
    rintro e w1 ⟨v, rfl, hO, hb1⟩
    have hN1 := hN.below hb1
    have hB1 := hB0.trans (hb1.mono hB0.size)
    clear c0 c1 c2 hN hb1
    obtain ⟨c0, c1, c2⟩ := hN1.cells
    obtain ⟨a, cap, rfl, hA⟩ := hO.rs
    have HA : Hid _ := hA
    have HF : Hid (_ = _) := spl_flat mn bt mx S.data.toList
    have HZ : Hid _ := spl_sizes mn bt mx S.data.toList (by omega) (by omega)
    have HL := spl_len mn bt mx S.data.toList
    rw [size_toList] at HL
    have HFL : Hid ((spl mn bt mx S.data.toList).flatten.length ≤ 3000) := by unfold Hid; rw [HF.out, size_toList]; exact hfs
    clear hA hO
    generalize spl mn bt mx S.data.toList = L at *
    go_wp2
    go_loop [7, 28] (fun x i => ∃ k : Nat, k ≤ L.length ∧ i = .int .i64 (k : Int) ∧ x = .string (bsU (L.take k).flatten)) (fun _ i => L.length - (intOf i).toNat)
    case atStart => exact ⟨0, by omega, rfl, by simp [bsU]⟩
    case round =>
      obtain ⟨k, hk, rfl, rfl⟩ := hrel
      by_cases hlt : k < L.length
      · have hki : (k : Int) < (L.length : Int) := by omega
        obtain ⟨g, rfl, hg, hc⟩ := HA.out (fun e => by rw [e] at hlt; simp at hlt)
        have ck := hc k hlt
        obtain ⟨z1, z2, z3⟩ := HZ.out k hlt
        have HT : Hid (bsU (L.take (k + 1)).flatten = bsU (L.take k).flatten ++ bsU (L.getD k [])) := by rw [take_flat L k hlt, bsU_append]; exact rfl
        have hxs : ((bsU (L.getD k [])).toList == ([] : List UInt8)) = false := by rw [bsU_toList, beq_eq_false_iff_ne]; exact z1
        have hsz := bsU_size (L.getD k [])
        have ht3 := take_flat_len L k
        have hts := bsU_size (L.take k).flatten
        have ht3' := HFL.out
        have d1 : decide ((mx : Int) < ((bsU (L.getD k [])).size : Int)) = false := by rw [hsz, decide_eq_false_iff_not]; omega
        have d1n : decide (mx < (bsU (L.getD k [])).size) = false := by rw [hsz, decide_eq_false_iff_not]; omega
        have hb3 : (bsU (L.take k).flatten).size ≤ 3000 := by omega
        have hb4 : (bsU (L.getD k [])).size ≤ 4096 := by omega
        by_cases hlast : k + 1 < L.length
        · have d2 : decide (((bsU (L.getD k [])).size : Int) < (mn : Int)) = false := by have := z3 hlast; rw [hsz, decide_eq_false_iff_not]; omega
          have d2n : decide ((bsU (L.getD k [])).size < mn) = false := by have := z3 hlast; rw [hsz, decide_eq_false_iff_not]; omega
          have d3 : decide ((k : Int) + 1 < (L.length : Int)) = true := by simp; omega
          clear hc z1 z2 z3 hsz hts ht3 ht3'
          generalize bsU (L.getD k []) = X at *
          generalize bsU (L.take k).flatten = Y at *
          go_wp2
          exact ⟨⟨k + 1, by omega, by go_num, by rw [HT.out]⟩, by simp [intOf]; omega⟩
        · have d3 : decide ((k : Int) + 1 < (L.length : Int)) = false := by rw [decide_eq_false_iff_not]; omega
          clear hc z1 z2 z3 hsz hts ht3 ht3'
          generalize bsU (L.getD k []) = X at *
          generalize bsU (L.take k).flatten = Y at *
          go_wp2
          exact ⟨⟨k + 1, by omega, by go_num, by rw [HT.out]⟩, by simp [intOf]; omega⟩
      · have HE : Hid (bsU (L.take k).flatten = S) := by rw [List.take_of_length_le (by omega), HF.out, bsU_self]; exact rfl
        rw [HE.out]
        go_wp2_with fail
        refine (awake10_any _).mono ?_
        rintro e w2 ⟨rfl, hb2⟩
        have hB2 := hB1.trans (hb2.mono hB1.size)
        have hq : (S.toList == S.toList) = true := by simp
        go_wp2
        go_ret
        exact ⟨rfl, hB2⟩
  · refine (split_bad S mn bt mx _ he).mono ?_
    rintro e w1 ⟨rfl, hb1⟩
    have hB1 := hB0.trans (hb1.mono hB0.size)
    have hn : (((errC mn bt mx : Nat) : Int) == 0) = false := by rw [beq_eq_false_iff_ne]; omega
    clear he
    generalize errC mn bt mx = E at *
    go_wp2_with fail
    refine (awake10_any _).mono ?_
    rintro e w2 ⟨rfl, hb2⟩
    have hB2 := hB1.trans (hb2.mono hB1.size)
    go_wp2
    go_ret
    exact ⟨rfl, hB2⟩
end Go.Proofs.Ytnfemofighgenab
