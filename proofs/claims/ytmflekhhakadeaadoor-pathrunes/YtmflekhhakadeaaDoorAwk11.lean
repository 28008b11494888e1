/- Contracts of the law's own few and awake (layer 11). -/
import Derived.Test.YtmflekhhakadeaaDoorPthN
import Derived.Test.YtmflekhhakadeaaDoorPthF
namespace Go.Proofs.YtmflekhhakadeaaDoor
open Go.RowKit
set_option linter.unusedVariables false

theorem mk_size (l : List UInt8) : (ByteArray.mk l.toArray).size = l.length := List.size_toArray
theorem ba_list (s : ByteArray) : ∃ l : List UInt8, s = ⟨l.toArray⟩ := ⟨s.data.toList, by cases s; rfl⟩
set_option maxRecDepth 100000 in
set_option maxHeartbeats 400000 in
theorem few11_any (l : List UInt8) (w : World) (hs : l.length ≤ 140737488351232) :
    Calls Tryd.prog 9 #[.string ⟨l.toArray⟩] w fun e w' => e = .returned (.string ⟨(l.take 400).toArray⟩) ∧ w' = w := by
  have hz := mk_size l
  by_cases h : 400 < l.length
  · have HE : Hid ((ByteArray.mk l.toArray).extract 0 400 = ⟨(l.take 400).toArray⟩) := by unfold Hid; rw [ext_mk]; simp
    have hi : (400 : Int) < (l.length : Int) := by omega
    go_enter Tryd.func9, Tryd.ntmps9
    go_wp2
    go_ret
    first | exact ⟨by rw [← HE.out]; rfl, rfl⟩ | exact ⟨by simp, rfl⟩
  · have HE : Hid (l.take 400 = l) := List.take_of_length_le (by omega)
    have hi : ¬ (400 : Int) < (l.length : Int) := by omega
    go_enter Tryd.func9, Tryd.ntmps9
    go_wp2
    go_ret
    rw [HE.out]
    exact ⟨rfl, rfl⟩
theorem foldl_any (l : List UInt8) (w : World) (hs : l.length ≤ 1000000) :
    Calls Tryd.prog 21 #[.string ⟨l.toArray⟩] w fun e w' => e = .returned (.string ⟨(foldL l).toArray⟩) ∧ Below w.heap.size w w' := fold_any ⟨l.toArray⟩ w (by rw [mk_size]; exact hs)
theorem countl_any (l : List UInt8) (w : World) (hs : l.length ≤ 1000000) :
    Calls Tryd.prog 23 #[.string ⟨l.toArray⟩] w fun e w' => e = .returned (.int .i64 (countL l : Int)) ∧ Below w.heap.size w w' := pcount_any ⟨l.toArray⟩ w (by rw [mk_size]; exact hs)
theorem cutl_any (l : List UInt8) (n : Int) (w : World) (hs : l.length ≤ 1000000) (hn0 : -9223372036854775808 ≤ n) (hn1 : n ≤ 9223372036854775807) :
    Calls Tryd.prog 25 #[.string ⟨l.toArray⟩, .int .i64 n] w fun e w' => e = .returned (.string ⟨(cutL (natN n) l).toArray⟩) ∧ Below w.heap.size w w' := pcut_any ⟨l.toArray⟩ n w (by rw [mk_size]; exact hs) hn0 hn1
theorem aw_ab : isL [97, 47, 98] = true := by
  have h1 : parts [97, 47, 98] = [[97], [98]] := by decide
  have n1 : nameL [97] = true := by
    unfold nameL; rw [runesOk_cons (by simp)]
    have : rn [97] = (97, 1) := by decide
    rw [this]; simp [runesOk_nil, okR, brk]
  have n2 : nameL [98] = true := by
    unfold nameL; rw [runesOk_cons (by simp)]
    have : rn [98] = (98, 1) := by decide
    rw [this]; simp [runesOk_nil, okR, brk]
  unfold isL
  rw [h1]
  simp [n1, n2]
theorem aw_up : isL [97, 47, 46, 46] = false := by
  have h1 : parts [97, 47, 46, 46] = [[97], [46, 46]] := by decide
  have n1 : nameL [46, 46] = false := nameL_false (by simp)
  unfold isL
  rw [h1]
  simp [n1]
theorem aw_cmp : pcm [97, 47, 98] [97, 45, 98] = -1 := by decide
theorem aw_fold : foldL [195, 128, 206, 169] = [195, 160, 207, 137] := by
  rw [foldL_cons (by simp)]
  have e1 : rn [195, 128, 206, 169] = (192, 2) := by decide
  have f1 : fp [195, 128, 206, 169] = [195, 160] := by unfold fp; rw [e1]; decide
  rw [e1, f1]
  show [195, 160] ++ foldL [206, 169] = _
  rw [foldL_cons (by simp)]
  have e2 : rn [206, 169] = (937, 2) := by decide
  have f2 : fp [206, 169] = [207, 137] := by unfold fp; rw [e2]; decide
  rw [e2, f2]
  show [195, 160] ++ ([207, 137] ++ foldL []) = _
  rw [foldL_nil]
  rfl
theorem aw_count : countL [255, 195] = 2 := by
  rw [countL_cons (by simp)]
  have e1 : rn [255, 195] = (65533, 1) := by decide
  rw [e1]
  show countL [195] + 1 = 2
  rw [countL_cons (by simp)]
  have e2 : rn [195] = (65533, 1) := by decide
  rw [e2]
  show countL [] + 1 + 1 = 2
  rw [countL_nil]
set_option maxRecDepth 100000 in
set_option maxHeartbeats 1000000 in
theorem awake11_any (w : World) (hL : Lay11 w) : Calls Tryd.prog 10 #[] w fun e w' => e = .returned (.bool true) ∧ Below w.heap.size w w' := by
  have H1 : Hid (Calls _ _ _ _ _) := is_any [97, 47, 98] w (by decide) hL
  unfold Hid at H1
  rw [aw_ab] at H1
  go_enter Tryd.func10, Tryd.ntmps10
  go_wp2_with fail
  refine (H1 : Calls _ _ _ _ _).mono ?_
  rintro e w1 ⟨rfl, hb1⟩
  clear H1
  have hL1 := hL.below hb1
  have H2 : Hid (Calls _ _ _ _ _) := is_any [97, 47, 46, 46] w1 (by decide) hL1
  unfold Hid at H2
  rw [aw_up] at H2
  go_wp2_with fail
  refine (H2 : Calls _ _ _ _ _).mono ?_
  rintro e w2 ⟨rfl, hb2⟩
  clear H2
  have hL2 := hL1.below hb2
  have H3 : Hid (Calls _ _ _ _ _) := pcmp_any [97, 47, 98] [97, 45, 98] w2 (by decide) (by decide) hL2.max
  unfold Hid at H3
  rw [aw_cmp] at H3
  go_wp2_with fail
  refine (H3 : Calls _ _ _ _ _).mono ?_
  rintro e w3 ⟨rfl, n3, rfl⟩
  clear H3
  have hb3 : Below w2.heap.size w2 (w2.drewN n3) := below_drewN (Below.refl _ _) n3
  have H4 : Hid (Calls _ _ _ _ _) := foldl_any [195, 128, 206, 169] (w2.drewN n3) (by decide)
  unfold Hid at H4
  rw [aw_fold] at H4
  go_wp2_with fail
  refine (H4 : Calls _ _ _ _ _).mono ?_
  rintro e w4 ⟨rfl, hb4⟩
  clear H4
  have H5 : Hid (Calls _ _ _ _ _) := countl_any [255, 195] w4 (by decide)
  unfold Hid at H5
  rw [aw_count] at H5
  go_wp2_with fail
  refine (H5 : Calls _ _ _ _ _).mono ?_
  rintro e w5 ⟨rfl, hb5⟩
  clear H5
  go_wp2
  go_ret
  have t := fun {a b c : World} (h : Below a.heap.size a b) (k : Below b.heap.size b c) => h.trans (k.mono h.size)
  exact ⟨rfl, t (t (t (t hb1 hb2) hb3) hb4) hb5⟩
end Go.Proofs.YtmflekhhakadeaaDoor
