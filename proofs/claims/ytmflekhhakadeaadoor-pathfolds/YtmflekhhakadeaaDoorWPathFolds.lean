/- The walk of PathFolds. -/
import Derived.Test.YtmflekhhakadeaaDoorAwk11
namespace Go.Proofs.YtmflekhhakadeaaDoor
open Go.RowKit
set_option linter.unusedVariables false

theorem belT {a b c : World} (h : Below a.heap.size a b) (k : Below b.heap.size b c) : Below a.heap.size a c := h.trans (k.mono h.size)
theorem name_fold (l : List UInt8) (h : nameL l = true) (hf : (foldL l).length ≤ 60) : nameL (foldL l) = true := by
  unfold nameL at h
  simp only [Bool.and_eq_true, decide_eq_true_eq] at h
  obtain ⟨⟨⟨⟨h1, h2⟩, h3⟩, h4⟩, h5⟩ := h
  have hne : l ≠ [] := by intro e; subst e; simp at h1
  rw [nameL_true (fold_ne l hne) hf (fun e => h3 (fold_dot1 l e)) (fun e => h4 (fold_dot2 l e))]
  exact ok_fold _ l (Nat.le_refl _) h5
theorem bool_ne_self (l : List UInt8) : (l != l) = false := by simp
set_option maxRecDepth 100000 in
set_option maxHeartbeats 2000000 in
theorem lawPathFolds_walk (a0 : ByteArray) (a1 : Int) (W : World) (b0 : a0.size ≤ 140737488351232) (b1 : -9223372036854775808 ≤ a1 ∧ a1 ≤ 9223372036854775807) (hL : Lay11 W) :
    Calls Tryd.prog 7 #[.string a0, .int .i64 a1] W fun e w' => e = .returned (.bool true) ∧ Below W.heap.size W w' := by
  obtain ⟨l0, rfl⟩ := ba_list a0
  rw [mk_size] at b0
  have hl : (l0.take 400).length ≤ 400 := by rw [List.length_take]; omega
  have HW : Hid (Calls _ _ _ _ _) := few11_any l0 W b0
  obtain ⟨b1a, b1b⟩ := b1
  unfold Hid at HW
  generalize l0.take 400 = l at *
  have hfl : (foldL l).length = l.length := fold_len _ l (Nat.le_refl _)
  have HFF : Hid (_ = _) := fold_fold _ l (Nat.le_refl _)
  have HCF : Hid (_ = _) := count_fold _ l (Nat.le_refl _)
  have HFC : Hid (foldL (cutL (natN a1) l) = cutL (natN a1) (foldL l)) := fold_cut _ l
  have HCC : Hid (countL (cutL (natN a1) l) = min (natN a1) (countL l)) := count_cut _ l
  have HNF : Hid (nameL l = true → (foldL l).length ≤ 60 → nameL (foldL l) = true) := name_fold l
  have hcut : (cutL (natN a1) l).length ≤ 400 := Nat.le_trans (cut_prefix (natN a1) l).length_le hl
  have hcl := countL_le _ l (Nat.le_refl _)
  go_enter Tryd.func7, Tryd.ntmps7
  go_wp2_with fail
  refine (HW : Calls _ _ _ _ _).mono ?_
  rintro e w0 ⟨rfl, hw0⟩
  obtain rfl := hw0.symm
  clear HW
  go_wp2_with fail
  refine (foldl_any l _ (by omega)).mono ?_
  rintro e w1 ⟨rfl, hb1⟩
  have H2 : Hid (Calls _ _ _ _ _) := foldl_any (foldL l) w1 (by omega)
  unfold Hid at H2
  rw [HFF.out] at H2
  go_wp2_with fail
  refine (H2 : Calls _ _ _ _ _).mono ?_
  rintro e w2 ⟨rfl, hb2⟩
  clear H2 HFF
  have HB2 : Hid (Below W.heap.size W w2) := belT hb1 hb2
  clear hb1 hb2
  have H3 : Hid (Calls _ _ _ _ _) := countl_any (foldL l) w2 (by omega)
  unfold Hid at H3
  rw [HCF.out] at H3
  have hself := bool_ne_self (foldL l)
  go_wp2_with fail
  refine (H3 : Calls _ _ _ _ _).mono ?_
  rintro e w3 ⟨rfl, hb3⟩
  clear H3 HCF
  have HB3 : Hid (Below W.heap.size W w3) := belT HB2.out hb3
  clear hb3 HB2
  go_wp2_with fail
  refine (countl_any l _ (by omega)).mono ?_
  rintro e w4 ⟨rfl, hb4⟩
  have HB4 : Hid (Below W.heap.size W w4) := belT HB3.out hb4
  clear hb4 HB3
  go_wp2_with fail
  refine (cutl_any l a1 _ (by omega) b1a b1b).mono ?_
  rintro e w5 ⟨rfl, hb5⟩
  have HB5 : Hid (Below W.heap.size W w5) := belT HB4.out hb5
  clear hb5 HB4
  have H6 : Hid (Calls _ _ _ _ _) := foldl_any (cutL (natN a1) l) w5 (by omega)
  unfold Hid at H6
  rw [HFC.out] at H6
  go_wp2_with fail
  refine (H6 : Calls _ _ _ _ _).mono ?_
  rintro e w6 ⟨rfl, hb6⟩
  have HB6 : Hid (Below W.heap.size W w6) := belT HB5.out hb6
  clear hb6 HB5 H6 HFC
  go_wp2_with fail
  refine (cutl_any (foldL l) a1 _ (by omega) b1a b1b).mono ?_
  rintro e w7 ⟨rfl, hb7⟩
  have HB7 : Hid (Below W.heap.size W w7) := belT HB6.out hb7
  clear hb7 HB6
  have hself2 := bool_ne_self (cutL (natN a1) (foldL l))
  go_wp2_with fail
  refine (cutl_any l a1 _ (by omega) b1a b1b).mono ?_
  rintro e w8 ⟨rfl, hb8⟩
  have HB8 : Hid (Below W.heap.size W w8) := belT HB7.out hb8
  clear hb8 HB7
  have H9 : Hid (Calls _ _ _ _ _) := countl_any (cutL (natN a1) l) w8 (by omega)
  unfold Hid at H9
  rw [HCC.out] at H9
  go_wp2_with fail
  refine (H9 : Calls _ _ _ _ _).mono ?_
  rintro e w9 ⟨rfl, hb9⟩
  have HB9 : Hid (Below W.heap.size W w9) := belT HB8.out hb9
  clear hb9 HB8 H9 HCC
  go_wp2_with fail
  refine (awake11_any _ (hL.below HB9.out)).mono ?_
  rintro e w10 ⟨rfl, hb10⟩
  have HB10 : Hid (Below W.heap.size W w10) := belT HB9.out hb10
  clear hb10 HB9
  go_wp2_with fail
  refine (countl_any l _ (by omega)).mono ?_
  rintro e w11 ⟨rfl, hb11⟩
  have HB11 : Hid (Below W.heap.size W w11) := belT HB10.out hb11
  clear hb11 HB10
  have hmm : max 0 (min a1 (countL l : Int)) = ((min (natN a1) (countL l) : Nat) : Int) := by unfold natN; omega
  generalize hM : ((min (natN a1) (countL l) : Nat) : Int) = M at *
  have H12 : Hid (Calls _ _ _ _ _) := name_any l w11 (by omega) (hL.below HB11.out)
  unfold Hid at H12
  have hfi : (((foldL l).length : Nat) : Int) = (l.length : Int) := by omega
  have HM : Hid (_ = M) := hM
  clear hM
  cases hn : nameL l with
  | false =>
    rw [hn] at H12
    go_wp2_with fail
    refine (H12 : Calls _ _ _ _ _).mono ?_
    rintro e w12 ⟨rfl, hb12⟩
    go_wp2
    go_ret
    exact ⟨rfl, belT HB11.out hb12⟩
  | true =>
    rw [hn] at H12
    go_wp2_with fail
    refine (H12 : Calls _ _ _ _ _).mono ?_
    rintro e w12 ⟨rfl, hb12⟩
    have HB12 : Hid (Below W.heap.size W w12) := belT HB11.out hb12
    clear hb12 HB11 H12
    by_cases h60 : 60 < l.length
    · have h60i : (60 : Int) < (l.length : Int) := by omega
      go_wp2
      go_ret
      exact ⟨rfl, HB12.out⟩
    · have h60i : ¬ (60 : Int) < (l.length : Int) := by omega
      have h60j : (l.length : Int) ≤ 60 := by omega
      have H13 : Hid (Calls _ _ _ _ _) := name_any (foldL l) w12 (by omega) (hL.below HB12.out)
      unfold Hid at H13
      rw [HNF.out hn (by omega)] at H13
      go_wp2_with fail
      refine (H13 : Calls _ _ _ _ _).mono ?_
      rintro e w13 ⟨rfl, hb13⟩
      go_wp2
      go_ret
      exact ⟨rfl, belT HB12.out hb13⟩
end Go.Proofs.YtmflekhhakadeaaDoor
