/- The walk of PathTotal. -/
import Derived.Test.YtmflekhhakadeaaDoorAwk11
namespace Go.Proofs.YtmflekhhakadeaaDoor
open Go.RowKit
set_option linter.unusedVariables false

theorem belT2 {a b c : World} (h : Below a.heap.size a b) (k : Below b.heap.size b c) : Below a.heap.size a c := h.trans (k.mono h.size)
theorem cat_mk (a b : List UInt8) : (ByteArray.mk a.toArray) ++ (ByteArray.mk b.toArray) = ⟨(a ++ b).toArray⟩ := by
  have e : ((ByteArray.mk a.toArray) ++ (ByteArray.mk b.toArray)).data.toList = a ++ b := by simp [ByteArray.data_append]
  generalize (ByteArray.mk a.toArray) ++ (ByteArray.mk b.toArray) = x at *
  obtain ⟨d⟩ := x
  have : d.toList = a ++ b := e
  rw [← this]
theorem take_in (a r : List UInt8) : (a ++ 47 :: r).take (a.length + 1) = a ++ [47] := by
  rw [show a ++ 47 :: r = (a ++ [47]) ++ r by simp, List.take_append_of_le_length (by simp), List.take_of_length_le (by simp)]
set_option maxRecDepth 100000 in
set_option maxHeartbeats 4000000 in
theorem lawPathTotal_walk (a0 a1 a2 a3 : ByteArray) (W : World) (b0 : a0.size ≤ 140737488351232) (b1 : a1.size ≤ 140737488351232) (b2 : a2.size ≤ 140737488351232) (b3 : a3.size ≤ 140737488351232) (hL : Lay11 W) :
    Calls Tryd.prog 6 #[.string a0, .string a1, .string a2, .string a3] W fun e w' => e = .returned (.bool true) ∧ Below W.heap.size W w' := by
  obtain ⟨l0, rfl⟩ := ba_list a0
  obtain ⟨l1, rfl⟩ := ba_list a1
  obtain ⟨l2, rfl⟩ := ba_list a2
  obtain ⟨l3, rfl⟩ := ba_list a3
  rw [mk_size] at b0 b1 b2 b3
  have HW0 : Hid (Calls _ _ _ _ _) := few11_any l0 W b0
  have HW1 : Hid (Calls _ _ _ _ _) := few11_any l1 W b1
  have HW2 : Hid (Calls _ _ _ _ _) := few11_any l2 W b2
  have HW3 : Hid (∀ w, Calls _ _ _ w _) := fun w => few11_any l3 w b3
  have k0 : (l0.take 400).length ≤ 400 := by rw [List.length_take]; omega
  have k1 : (l1.take 400).length ≤ 400 := by rw [List.length_take]; omega
  have k2 : (l2.take 400).length ≤ 400 := by rw [List.length_take]; omega
  have k3 : (l3.take 400).length ≤ 400 := by rw [List.length_take]; omega
  unfold Hid at HW0 HW1 HW2
  generalize l0.take 400 = a at *
  generalize l1.take 400 = b at *
  generalize l2.take 400 = c at *
  generalize l3.take 400 = n at *
  go_enter Tryd.func6, Tryd.ntmps6
  go_wp2_with fail
  refine (HW0 : Calls _ _ _ _ _).mono ?_
  rintro e w0 ⟨rfl, hw0⟩
  obtain rfl := hw0.symm
  go_wp2_with fail
  refine (HW1 : Calls _ _ _ _ _).mono ?_
  rintro e w0 ⟨rfl, hw0⟩
  obtain rfl := hw0.symm
  go_wp2_with fail
  refine (HW2 : Calls _ _ _ _ _).mono ?_
  rintro e w0 ⟨rfl, hw0⟩
  obtain rfl := hw0.symm
  clear HW0 HW1 HW2
  have hv1 := pcm_ord.vals a b
  have hv2 := pcm_ord.vals b c
  have HAN : Hid (pcm b a = - pcm a b) := pcm_ord.anti a b
  have HEQ : Hid (pcm a b = 0 ↔ a = b) := pcm_ord.eq a b
  have HMN : Hid (pcm a b ≤ 0 → pcm b c ≤ 0 → pcm a c = min (pcm a b) (pcm b c)) := pcm_ord.min a b c
  have HIN : Hid (pcm a (a ++ 47 :: n) = -1) := pcm_in a n
  have HBE : Hid (pcm a b = -1 → (∃ r, b = a ++ 47 :: r) ∨ pcm (a ++ 47 :: n) b = -1) := pcm_behind a b n
  have hM := hL.max
  go_wp2_with fail
  refine (pcmp_any a b _ (by omega) (by omega) hM).mono ?_
  rintro e w1 ⟨rfl, n1, rfl⟩
  go_wp2_with fail
  refine (pcmp_any b c _ (by omega) (by omega) (hM.drew _)).mono ?_
  rintro e w1 ⟨rfl, n2, rfl⟩
  go_wp2_with fail
  refine (pcmp_any a c _ (by omega) (by omega) (hM.drew _)).mono ?_
  rintro e w1 ⟨rfl, n3, rfl⟩
  have H4 : Hid (∀ n, Calls _ _ _ (W.drewN n) _) := fun n => pcmp_any b a (W.drewN n) (by omega) (by omega) (hM.drew _)
  unfold Hid at H4
  rw [HAN.out] at H4
  clear HAN
  generalize pcm a b = AB at *
  generalize pcm b c = BC at *
  generalize pcm a c = AC at *
  have hcat : (ByteArray.mk a.toArray) ++ (ByteArray.mk #[47]) = ⟨(a ++ [47]).toArray⟩ := cat_mk a [47]
  have hcat2 : (ByteArray.mk (a ++ [47]).toArray) ++ (ByteArray.mk n.toArray) = ⟨(a ++ 47 :: n).toArray⟩ := by rw [cat_mk]; simp
  rcases hv1 with rfl | rfl | rfl
  · have hq : (a == b) = false := by
      have := HEQ.out
      simp at this
      simp [this]
    clear HEQ
    rcases hv2 with rfl | rfl | rfl
    · obtain rfl : AC = -1 := by have := HMN.out (by decide) (by decide); omega
      clear HMN
      go_wp2_with fail
      refine (H4 _).mono ?_
      rintro e w1 ⟨rfl, n4, rfl⟩
      go_wp2_with fail
      refine (HW3.out _).mono ?_
      rintro e w1 ⟨rfl, hw1⟩
      subst hw1
      go_wp2_with fail
      refine (awake11_any _ (hL.below (below_drewN (Below.refl _ W) _))).mono ?_
      rintro e w5 ⟨rfl, hb5⟩
      have HB5 : Hid (Below W.heap.size W w5) := (below_drewN (Below.refl _ W) _).trans hb5
      have hL5 := hL.below HB5.out
      clear hb5
      have H6 : Hid (Calls _ _ _ _ _) := pcmp_any a (a ++ 47 :: n) w5 (by omega) (by simp; omega) hL5.max
      unfold Hid at H6
      rw [HIN.out] at H6
      go_wp2_with fail
      refine (H6 : Calls _ _ _ _ _).mono ?_
      rintro e w6 ⟨rfl, n6, rfl⟩
      have HB6 : Hid (Below W.heap.size W (w5.drewN n6)) := below_drewN HB5.out n6
      clear H6
      rcases HBE.out (by first | rfl | trivial) with ⟨r, hbr⟩ | hlt
      · have q1 : (a.length : Int) < (b.length : Int) := by rw [hbr]; simp; omega
        have q2 : ((b.take (a.length + 1)) == (a ++ [47])) = true := by rw [hbr, take_in]; simp
        have q3 : (a.length : Int) + 1 ≤ (b.length : Int) := by omega
        have q4 : (ByteArray.mk b.toArray).extract 0 (a.length + 1) = ⟨(b.take (a.length + 1)).toArray⟩ := by rw [ext_mk]; simp
        have HR : Hid (b = a ++ 47 :: r) := hbr
        clear hbr
        go_wp2
        go_ret
        exact ⟨rfl, HB6.out⟩
      · have H7 : Hid (Calls _ _ _ _ _) := pcmp_any (a ++ 47 :: n) b (w5.drewN n6) (by simp; omega) (by omega) (hL5.max.drew _)
        unfold Hid at H7
        rw [hlt] at H7
        clear hlt
        have q4 : (ByteArray.mk b.toArray).extract 0 (a.length + 1) = ⟨(b.take (a.length + 1)).toArray⟩ := by rw [ext_mk]; simp
        by_cases q : a.length < b.length
        · have q1 : (a.length : Int) < (b.length : Int) := by omega
          have q3 : (a.length : Int) + 1 ≤ (b.length : Int) := by omega
          cases q2 : (b.take (a.length + 1)) == (a ++ [47]) with
          | true =>
            go_wp2
            go_ret
            exact ⟨rfl, HB6.out⟩
          | false =>
            go_wp2_with fail
            refine (H7 : Calls _ _ _ _ _).mono ?_
            rintro e w7 ⟨rfl, n7, rfl⟩
            go_wp2
            go_ret
            exact ⟨rfl, below_drewN HB5.out _⟩
        · have q1 : ¬ (a.length : Int) < (b.length : Int) := by omega
          have q1' : (b.length : Int) ≤ (a.length : Int) := by omega
          go_wp2_with fail
          refine (H7 : Calls _ _ _ _ _).mono ?_
          rintro e w7 ⟨rfl, n7, rfl⟩
          go_wp2
          go_ret
          exact ⟨rfl, below_drewN HB5.out _⟩
    · obtain rfl : AC = -1 := by have := HMN.out (by decide) (by decide); omega
      clear HMN
      go_wp2_with fail
      refine (H4 _).mono ?_
      rintro e w1 ⟨rfl, n4, rfl⟩
      go_wp2_with fail
      refine (HW3.out _).mono ?_
      rintro e w1 ⟨rfl, hw1⟩
      subst hw1
      go_wp2_with fail
      refine (awake11_any _ (hL.below (below_drewN (Below.refl _ W) _))).mono ?_
      rintro e w5 ⟨rfl, hb5⟩
      have HB5 : Hid (Below W.heap.size W w5) := (below_drewN (Below.refl _ W) _).trans hb5
      have hL5 := hL.below HB5.out
      clear hb5
      have H6 : Hid (Calls _ _ _ _ _) := pcmp_any a (a ++ 47 :: n) w5 (by omega) (by simp; omega) hL5.max
      unfold Hid at H6
      rw [HIN.out] at H6
      go_wp2_with fail
      refine (H6 : Calls _ _ _ _ _).mono ?_
      rintro e w6 ⟨rfl, n6, rfl⟩
      have HB6 : Hid (Below W.heap.size W (w5.drewN n6)) := below_drewN HB5.out n6
      clear H6
      rcases HBE.out (by first | rfl | trivial) with ⟨r, hbr⟩ | hlt
      · have q1 : (a.length : Int) < (b.length : Int) := by rw [hbr]; simp; omega
        have q2 : ((b.take (a.length + 1)) == (a ++ [47])) = true := by rw [hbr, take_in]; simp
        have q3 : (a.length : Int) + 1 ≤ (b.length : Int) := by omega
        have q4 : (ByteArray.mk b.toArray).extract 0 (a.length + 1) = ⟨(b.take (a.length + 1)).toArray⟩ := by rw [ext_mk]; simp
        have HR : Hid (b = a ++ 47 :: r) := hbr
        clear hbr
        go_wp2
        go_ret
        exact ⟨rfl, HB6.out⟩
      · have H7 : Hid (Calls _ _ _ _ _) := pcmp_any (a ++ 47 :: n) b (w5.drewN n6) (by simp; omega) (by omega) (hL5.max.drew _)
        unfold Hid at H7
        rw [hlt] at H7
        clear hlt
        have q4 : (ByteArray.mk b.toArray).extract 0 (a.length + 1) = ⟨(b.take (a.length + 1)).toArray⟩ := by rw [ext_mk]; simp
        by_cases q : a.length < b.length
        · have q1 : (a.length : Int) < (b.length : Int) := by omega
          have q3 : (a.length : Int) + 1 ≤ (b.length : Int) := by omega
          cases q2 : (b.take (a.length + 1)) == (a ++ [47]) with
          | true =>
            go_wp2
            go_ret
            exact ⟨rfl, HB6.out⟩
          | false =>
            go_wp2_with fail
            refine (H7 : Calls _ _ _ _ _).mono ?_
            rintro e w7 ⟨rfl, n7, rfl⟩
            go_wp2
            go_ret
            exact ⟨rfl, below_drewN HB5.out _⟩
        · have q1 : ¬ (a.length : Int) < (b.length : Int) := by omega
          have q1' : (b.length : Int) ≤ (a.length : Int) := by omega
          go_wp2_with fail
          refine (H7 : Calls _ _ _ _ _).mono ?_
          rintro e w7 ⟨rfl, n7, rfl⟩
          go_wp2
          go_ret
          exact ⟨rfl, below_drewN HB5.out _⟩
    · clear HMN
      go_wp2_with fail
      refine (H4 _).mono ?_
      rintro e w1 ⟨rfl, n4, rfl⟩
      go_wp2_with fail
      refine (HW3.out _).mono ?_
      rintro e w1 ⟨rfl, hw1⟩
      subst hw1
      go_wp2_with fail
      refine (awake11_any _ (hL.below (below_drewN (Below.refl _ W) _))).mono ?_
      rintro e w5 ⟨rfl, hb5⟩
      have HB5 : Hid (Below W.heap.size W w5) := (below_drewN (Below.refl _ W) _).trans hb5
      have hL5 := hL.below HB5.out
      clear hb5
      have H6 : Hid (Calls _ _ _ _ _) := pcmp_any a (a ++ 47 :: n) w5 (by omega) (by simp; omega) hL5.max
      unfold Hid at H6
      rw [HIN.out] at H6
      go_wp2_with fail
      refine (H6 : Calls _ _ _ _ _).mono ?_
      rintro e w6 ⟨rfl, n6, rfl⟩
      have HB6 : Hid (Below W.heap.size W (w5.drewN n6)) := below_drewN HB5.out n6
      clear H6
      rcases HBE.out (by first | rfl | trivial) with ⟨r, hbr⟩ | hlt
      · have q1 : (a.length : Int) < (b.length : Int) := by rw [hbr]; simp; omega
        have q2 : ((b.take (a.length + 1)) == (a ++ [47])) = true := by rw [hbr, take_in]; simp
        have q3 : (a.length : Int) + 1 ≤ (b.length : Int) := by omega
        have q4 : (ByteArray.mk b.toArray).extract 0 (a.length + 1) = ⟨(b.take (a.length + 1)).toArray⟩ := by rw [ext_mk]; simp
        have HR : Hid (b = a ++ 47 :: r) := hbr
        clear hbr
        go_wp2
        go_ret
        exact ⟨rfl, HB6.out⟩
      · have H7 : Hid (Calls _ _ _ _ _) := pcmp_any (a ++ 47 :: n) b (w5.drewN n6) (by simp; omega) (by omega) (hL5.max.drew _)
        unfold Hid at H7
        rw [hlt] at H7
        clear hlt
        have q4 : (ByteArray.mk b.toArray).extract 0 (a.length + 1) = ⟨(b.take (a.length + 1)).toArray⟩ := by rw [ext_mk]; simp
        by_cases q : a.length < b.length
        · have q1 : (a.length : Int) < (b.length : Int) := by omega
          have q3 : (a.length : Int) + 1 ≤ (b.length : Int) := by omega
          cases q2 : (b.take (a.length + 1)) == (a ++ [47]) with
          | true =>
            go_wp2
            go_ret
            exact ⟨rfl, HB6.out⟩
          | false =>
            go_wp2_with fail
            refine (H7 : Calls _ _ _ _ _).mono ?_
            rintro e w7 ⟨rfl, n7, rfl⟩
            go_wp2
            go_ret
            exact ⟨rfl, below_drewN HB5.out _⟩
        · have q1 : ¬ (a.length : Int) < (b.length : Int) := by omega
          have q1' : (b.length : Int) ≤ (a.length : Int) := by omega
          go_wp2_with fail
          refine (H7 : Calls _ _ _ _ _).mono ?_
          rintro e w7 ⟨rfl, n7, rfl⟩
          go_wp2
          go_ret
          exact ⟨rfl, below_drewN HB5.out _⟩
  · have hq : (a == b) = true := by
      have := HEQ.out
      simp at this
      simp [this]
    clear HEQ
    rcases hv2 with rfl | rfl | rfl
    · obtain rfl : AC = -1 := by have := HMN.out (by decide) (by decide); omega
      clear HMN
      go_wp2_with fail
      refine (H4 _).mono ?_
      rintro e w1 ⟨rfl, n4, rfl⟩
      go_wp2_with fail
      refine (HW3.out _).mono ?_
      rintro e w1 ⟨rfl, hw1⟩
      subst hw1
      go_wp2_with fail
      refine (awake11_any _ (hL.below (below_drewN (Below.refl _ W) _))).mono ?_
      rintro e w5 ⟨rfl, hb5⟩
      have HB5 : Hid (Below W.heap.size W w5) := (below_drewN (Below.refl _ W) _).trans hb5
      have hL5 := hL.below HB5.out
      clear hb5
      have H6 : Hid (Calls _ _ _ _ _) := pcmp_any a (a ++ 47 :: n) w5 (by omega) (by simp; omega) hL5.max
      unfold Hid at H6
      rw [HIN.out] at H6
      go_wp2_with fail
      refine (H6 : Calls _ _ _ _ _).mono ?_
      rintro e w6 ⟨rfl, n6, rfl⟩
      have HB6 : Hid (Below W.heap.size W (w5.drewN n6)) := below_drewN HB5.out n6
      clear H6
      go_wp2
      go_ret
      exact ⟨rfl, HB6.out⟩
    · obtain rfl : AC = 0 := by have := HMN.out (by decide) (by decide); omega
      clear HMN
      go_wp2_with fail
      refine (H4 _).mono ?_
      rintro e w1 ⟨rfl, n4, rfl⟩
      go_wp2_with fail
      refine (HW3.out _).mono ?_
      rintro e w1 ⟨rfl, hw1⟩
      subst hw1
      go_wp2_with fail
      refine (awake11_any _ (hL.below (below_drewN (Below.refl _ W) _))).mono ?_
      rintro e w5 ⟨rfl, hb5⟩
      have HB5 : Hid (Below W.heap.size W w5) := (below_drewN (Below.refl _ W) _).trans hb5
      have hL5 := hL.below HB5.out
      clear hb5
      have H6 : Hid (Calls _ _ _ _ _) := pcmp_any a (a ++ 47 :: n) w5 (by omega) (by simp; omega) hL5.max
      unfold Hid at H6
      rw [HIN.out] at H6
      go_wp2_with fail
      refine (H6 : Calls _ _ _ _ _).mono ?_
      rintro e w6 ⟨rfl, n6, rfl⟩
      have HB6 : Hid (Below W.heap.size W (w5.drewN n6)) := below_drewN HB5.out n6
      clear H6
      go_wp2
      go_ret
      exact ⟨rfl, HB6.out⟩
    · clear HMN
      go_wp2_with fail
      refine (H4 _).mono ?_
      rintro e w1 ⟨rfl, n4, rfl⟩
      go_wp2_with fail
      refine (HW3.out _).mono ?_
      rintro e w1 ⟨rfl, hw1⟩
      subst hw1
      go_wp2_with fail
      refine (awake11_any _ (hL.below (below_drewN (Below.refl _ W) _))).mono ?_
      rintro e w5 ⟨rfl, hb5⟩
      have HB5 : Hid (Below W.heap.size W w5) := (below_drewN (Below.refl _ W) _).trans hb5
      have hL5 := hL.below HB5.out
      clear hb5
      have H6 : Hid (Calls _ _ _ _ _) := pcmp_any a (a ++ 47 :: n) w5 (by omega) (by simp; omega) hL5.max
      unfold Hid at H6
      rw [HIN.out] at H6
      go_wp2_with fail
      refine (H6 : Calls _ _ _ _ _).mono ?_
      rintro e w6 ⟨rfl, n6, rfl⟩
      have HB6 : Hid (Below W.heap.size W (w5.drewN n6)) := below_drewN HB5.out n6
      clear H6
      go_wp2
      go_ret
      exact ⟨rfl, HB6.out⟩
  · have hq : (a == b) = false := by
      have := HEQ.out
      simp at this
      simp [this]
    clear HEQ
    clear HMN hv2
    go_wp2_with fail
    refine (H4 _).mono ?_
    rintro e w1 ⟨rfl, n4, rfl⟩
    go_wp2_with fail
    refine (HW3.out _).mono ?_
    rintro e w1 ⟨rfl, hw1⟩
    subst hw1
    go_wp2_with fail
    refine (awake11_any _ (hL.below (below_drewN (Below.refl _ W) _))).mono ?_
    rintro e w5 ⟨rfl, hb5⟩
    have HB5 : Hid (Below W.heap.size W w5) := (below_drewN (Below.refl _ W) _).trans hb5
    have hL5 := hL.below HB5.out
    clear hb5
    have H6 : Hid (Calls _ _ _ _ _) := pcmp_any a (a ++ 47 :: n) w5 (by omega) (by simp; omega) hL5.max
    unfold Hid at H6
    rw [HIN.out] at H6
    go_wp2_with fail
    refine (H6 : Calls _ _ _ _ _).mono ?_
    rintro e w6 ⟨rfl, n6, rfl⟩
    have HB6 : Hid (Below W.heap.size W (w5.drewN n6)) := below_drewN HB5.out n6
    clear H6
    go_wp2
    go_ret
    exact ⟨rfl, HB6.out⟩
end Go.Proofs.YtmflekhhakadeaaDoor
