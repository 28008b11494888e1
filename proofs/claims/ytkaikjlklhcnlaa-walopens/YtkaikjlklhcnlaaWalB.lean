/- Contract: wal's first. -/
import Derived.Test.YtkaikjlklhcnlaaWalA
namespace Go.Proofs.Ytkaikjlklhcnlaa
open Go.RowKit
set_option linter.unusedVariables false
set_option linter.unusedSimpArgs false

theorem getB_any (X : ByteArray) (w : World) (hs : X.size ≤ 1099511627776) :
    Calls Try.prog 51 #[.string X] w fun e w' => ∃ z : Nat, e = .returned (.int .u64 (z : Int)) ∧ Hid (z = getN (X.data.toList.take 8)) ∧ w' = w := by
  refine (get_any X w (by omega)).mono ?_
  rintro e w1 ⟨rfl, rfl⟩
  exact ⟨_, rfl, rfl, rfl⟩
theorem crcB_any (X : ByteArray) (w : World) (hs : X.size ≤ 1099511627776) :
    Calls Try.prog 34 #[.string X] w fun e w' => ∃ c : Nat, e = .returned (.int .u32 (c : Int)) ∧ Hid (c = crcV 0 X.data.toList) ∧ c < 4294967296 ∧ Below w.heap.size w w' := by
  refine (crc32_any X w (by omega)).mono ?_
  rintro e w1 ⟨rfl, hb1⟩
  exact ⟨_, rfl, rfl, crcV_lt _ _, hb1⟩
theorem ext_size (T : ByteArray) (a b : Nat) (hb : b ≤ T.size) : (T.extract a b).size = b - a := by
  rw [ByteArray.size_extract]; omega
theorem cut_data (s : List UInt8) (a b : Nat) : ((mkT s).extract a b).data.toList = (s.drop a).take (b - a) := by rw [mkT_cut, mkT_dl]
set_option maxRecDepth 100000 in
set_option maxHeartbeats 1000000 in
theorem first_any (s : List UInt8) (w : World) (hs : s.length ≤ 1099511627776) :
    Calls Try.prog 31 #[.string (mkT s)] w fun e w' => e = .returned (.tuple #[.string (mkT ((fst1 s).getD [])), .bool (fst1 s).isSome]) ∧ Below w.heap.size w w' := by
  have hmt : mkT ([] : List UInt8) = ⟨#[]⟩ := rfl
  obtain ⟨n, hn⟩ : ∃ n, n = s.length := ⟨_, rfl⟩
  have HN : Hid (n = s.length) := hn
  rw [← hn] at hs
  clear hn
  have hsz : (mkT s).size = n := by rw [mkT_sz]; exact HN.out.symm
  obtain ⟨T, hT⟩ : ∃ T, T = mkT s := ⟨_, rfl⟩
  have HT : Hid (T = mkT s) := hT
  rw [← hT] at hsz
  rw [← hT]
  clear hT
  by_cases h4 : n < 4
  · have HR : Hid (fst1 s = none) := by
      unfold Hid fst1; rw [if_neg]; rintro ⟨h, _⟩; rw [← HN.out] at h; omega
    have h4i : (n : Int) < 4 := by omega
    rw [HR.out]
    show Calls _ _ _ _ fun e w' => e = .returned (.tuple #[.string (mkT []), .bool false]) ∧ _
    rw [hmt]
    go_enter Try.func31, Try.ntmps31
    go_wp2
    go_ret2
    exact ⟨rfl, Below.refl _ _⟩
  have h4i : ¬ (n : Int) < 4 := by omega
  have hX := ext_size T 0 4 (by omega)
  have HXD : Hid ((T.extract 0 4).data.toList = s.take 4) := by unfold Hid; rw [HT.out, cut_data]; simp
  go_enter Try.func31, Try.ntmps31
  go_wp2_with fail
  generalize T.extract 0 4 = X at *
  refine (getB_any X _ (by omega)).mono ?_
  rintro e w1 ⟨z, rfl, HZ, e1⟩
  have e2 := e1.symm
  subst e2
  have HZ2 : Hid (z = rcN s) := by
    unfold Hid rcN; rw [HZ.out, HXD.out, List.take_take, Nat.min_eq_right (by decide)]
  clear HZ HXD hX
  by_cases h5 : 5000 < z
  · have HR : Hid (fst1 s = none) := by
      unfold Hid fst1; rw [if_neg]; rintro ⟨_, h, _⟩; rw [← HZ2.out] at h; omega
    have h5i : (5000 : Int) < (z : Int) := by omega
    go_wp2
    go_ret2
    rw [HR.out]
    exact ⟨rfl, Below.refl _ _⟩
  have h5i : ¬ (5000 : Int) < (z : Int) := by omega
  by_cases h6 : n < z + 8
  · have HR : Hid (fst1 s = none) := by
      unfold Hid fst1; rw [if_neg]; rintro ⟨_, _, h, _⟩; rw [← HZ2.out, ← HN.out] at h; omega
    have h6i : (n : Int) < 4 + (z : Int) + 4 := by omega
    go_wp2
    go_ret2
    rw [HR.out]
    exact ⟨rfl, Below.refl _ _⟩
  have h6i : ¬ (n : Int) < 4 + (z : Int) + 4 := by omega
  have HNZ : Hid (z + 8 ≤ n) := Nat.le_of_not_lt h6
  obtain ⟨m, hm⟩ : ∃ m, m = 4 + z := ⟨_, rfl⟩
  have hmi : (4 : Int) + (z : Int) = (m : Int) := by omega
  have hm8 : m + 4 ≤ n := by omega
  have hX := ext_size T 4 m (by omega)
  have HXD : Hid ((T.extract 4 m).data.toList = rcT s) := by unfold Hid; rw [HT.out, cut_data]; unfold rcT; rw [← HZ2.out]; congr 1; omega
  have hY := ext_size T m (m + 4) (by omega)
  have HYD : Hid ((T.extract m (m + 4)).data.toList = (s.drop (4 + rcN s)).take 4) := by unfold Hid; rw [HT.out, cut_data, ← HZ2.out, hm]; congr 1; omega
  have HZM : Hid (m = 4 + z) := hm
  clear hm
  have h6j : ¬ (n : Int) < (m : Int) + 4 := by omega
  have hmx : (m : Int) ≤ 5004 := by omega
  clear h6 h6i
  go_wp2_with fail
  generalize T.extract m (m + 4) = Y at *
  generalize T.extract 4 m = R at *
  refine (getB_any Y _ (by omega)).mono ?_
  rintro e w1 ⟨y, rfl, HY, e1⟩
  have e2 := e1.symm
  subst e2
  clear e1
  have HY2 : Hid (y = getN ((s.drop (4 + rcN s)).take 4)) := by
    unfold Hid; rw [HY.out, HYD.out, List.take_take, Nat.min_eq_right (by decide)]
  clear HY HYD hY
  go_wp2_with fail
  refine (crcB_any R _ (by omega)).mono ?_
  rintro e w2 ⟨c, rfl, HC, hc, hb2⟩
  have HB2 : Hid (Below w.heap.size w w2) := hb2
  clear hb2
  have hci : (c : Int) < 4294967296 := by omega
  have HC2 : Hid (c = crcV 0 (rcT s)) := by unfold Hid; rw [HC.out, HXD.out]
  by_cases hyc : y = c
  · have HR : Hid (fst1 s = some (rcT s)) := by
      unfold Hid fst1
      rw [if_pos]
      rw [← HZ2.out, ← HN.out]
      refine ⟨by omega, by omega, HNZ.out, ?_⟩
      rw [← HC2.out, ← hyc, HY2.out, HZ2.out]
    subst hyc
    go_wp2_with fail
    refine (clone_any R _ (by omega)).mono ?_
    rintro e w3 ⟨rfl, hb3⟩
    have HB3 : Hid (Below w.heap.size w w3) := HB2.out.trans (hb3.mono HB2.out.size)
    clear hb3
    go_wp2
    go_ret2
    rw [HR.out]
    refine ⟨?_, HB3.out⟩
    have : R = mkT (rcT s) := by rw [← HXD.out, mkT_self]
    rw [this]; rfl
  · have HR : Hid (fst1 s = none) := by
      unfold Hid fst1
      rw [if_neg]
      rintro ⟨_, _, _, h⟩
      rw [← HC2.out] at h
      exact hyc (HY2.out.trans h)
    have hyi : ((y : Int) == (c : Int)) = false := by rw [beq_eq_false_iff_ne]; omega
    have hyj : ((y : Int) != (c : Int)) = true := by rw [bne_iff_ne]; omega
    clear hyc
    go_wp2
    go_ret2
    rw [HR.out]
    exact ⟨rfl, HB2.out⟩
end Go.Proofs.Ytkaikjlklhcnlaa
