/- The walk of DigestParts. -/
import Derived.Test.YtkphgjaklkfcfabDoorAwake2
import Derived.Test.YtkphgjaklkfcfabDoorArgs
import Derived.Test.YtkphgjaklkfcfabDoorFew
namespace Go.Proofs.YtkphgjaklkfcfabDoor
open Go.RowKit
attribute [local go_sem ↓] Go.wp_at_zero Go.wp_at_succ
set_option linter.unusedVariables false

/-- The two Hashes of the law: of the texts S and T. -/
def PH (w : World) (S T : List UInt8) (wr : World) : Prop := HashAt wr w.heap.size S ∧ HashAt wr (w.heap.size + 1) T ∧ Roots wr ∧ Below w.heap.size w wr
theorem PH.start (w : World) (hR : Roots w) : PH w [] [] ((w.alloc (.cells hz73 34)).alloc (.cells hz73 34)) := by
  have hb1 : Below w.heap.size w (w.alloc (.cells hz73 34)) := (Below.refl _ w).alloc (Nat.le_refl _) _
  have hb2 : Below (w.alloc (.cells hz73 34)).heap.size (w.alloc (.cells hz73 34)) ((w.alloc (.cells hz73 34)).alloc (.cells hz73 34)) := (Below.refl _ _).alloc (Nat.le_refl _) _
  have hb := hb1.trans (hb2.mono hb1.size)
  have h2 := hash_zero (w.alloc (.cells hz73 34))
  rw [World.size_alloc] at h2
  exact ⟨(hash_zero w).below hb2, h2, hR.below hb, hb⟩
theorem PH.below {w wr w1 : World} {S T : List UInt8} (h : PH w S T wr) (hb : Below wr.heap.size wr w1) : PH w S T w1 :=
  ⟨h.1.below hb, h.2.1.below hb, h.2.2.1.below hb, h.2.2.2.trans (hb.mono h.2.2.2.size)⟩
theorem PH.grown {w wr w1 : World} {S T : List UInt8} (h : PH w S T wr) (g : Nat) (hg : wr.grownBy w1 (some g)) (hB : w.heap.size ≤ g) (h0 : 0 < w.heap.size) : Roots w1 ∧ Below w.heap.size w w1 := by
  have hb := h.2.2.2.grown hg h.2.2.2.size (fun k hk => by cases hk; exact hB)
  obtain ⟨ty, fr, hr⟩ := h.2.2.1
  refine ⟨⟨ty, fr, ?_⟩, hb⟩
  rw [hg.block 0 (h.2.2.1.pos) (fun e => by cases e; omega)]; exact hr
theorem HashAt.grown {w w1 : World} {g k : Nat} {t : List UInt8} (h : HashAt w k t) (hg : w.grownBy w1 (some g)) (hk : k ≠ g) : HashAt w1 k t := by
  have hl := h.lt
  obtain ⟨st, rs, h, h'⟩ := h
  exact ⟨st, rs, by rw [hg.block k hl (fun e => hk (by cases e; rfl))]; exact h, h'⟩
theorem PH.first {w wr w1 : World} {S S' T : List UInt8} (h : PH w S T wr) (h1 : HashAt w1 w.heap.size S') (hg : wr.grownBy w1 (some w.heap.size)) (h0 : 0 < w.heap.size) : PH w S' T w1 := by
  obtain ⟨a, b⟩ := h.grown _ hg (Nat.le_refl _) h0
  exact ⟨h1, h.2.1.grown hg (by omega), a, b⟩
theorem PH.second {w wr w1 : World} {S T T' : List UInt8} (h : PH w S T wr) (h1 : HashAt w1 (w.heap.size + 1) T') (hg : wr.grownBy w1 (some (w.heap.size + 1))) (h0 : 0 < w.heap.size) : PH w S T' w1 := by
  obtain ⟨a, b⟩ := h.grown _ hg (by omega) h0
  exact ⟨h.1.grown hg (by omega), h1, a, b⟩
theorem few200 (s : ByteArray) (w : World) (hs : s.size ≤ 9223372036854775807) :
    Calls Tryd.prog 6 #[.string s, .int .i64 200] w fun e w' => e = .returned (.string (s.extract 0 200)) ∧ w' = w := few_any s 200 w (by decide) hs
theorem tx_cat (T : List UInt8) (X : ByteArray) : tx T ++ X = tx (T ++ X.data.toList) := by rw [← tx_append]; rfl

theorem sum_cat (T : List UInt8) (X : ByteArray) (w : World) (hs : (T ++ X.data.toList).length ≤ 140737488351232) (hR : Roots w) :
    Calls Tryd.prog 9 #[.string (tx T ++ X)] w fun e w' => e = .returned (.string (shaS (T ++ X.data.toList))) ∧ Below w.heap.size w w' := by
  rw [tx_cat]
  exact sum_any (tx (T ++ X.data.toList)) w hs hR

set_option maxRecDepth 100000 in
set_option maxHeartbeats 1000000 in
theorem lawDigestParts_walk (a : Option Addr) (len cap : Nat) (ss : List ByteArray) (a1 : Option Addr) (len1 cap1 : Nat) (f : Nat → Bool) (w : World) (hr : IsStrs w a len cap ss) (hq : IsBs w a1 len1 cap1 f) (hR : Roots w) :
    Calls Tryd.prog 4 #[.slice a len cap, .slice a1 len1 cap1] w fun e w' => e = .returned (.bool true) ∧ Below w.heap.size w w' := by
  have hz := (zero_of_info Tryd.zeroHash).1
  have hpos := hR.pos
  have hl := strs_len hr
  have hl1 := bs_lenlen hq
  have HR : Hid (IsStrs w a len cap ss) := hr
  have HQ : Hid (IsBs w a1 len1 cap1 f) := hq
  have HST : Hid (PH _ _ _ _) := PH.start w hR
  clear hr hq hR
  go_enter Tryd.func4, Tryd.ntmps4
  go_wp2
  clear hz
  go_loopw [7, 8] (fun v i wr => ∃ (k : Nat) (T : List UInt8), k ≤ len ∧ k ≤ 20 ∧ i = .int .i64 (k : Int) ∧ v = .string (tx T) ∧ T.length ≤ 200 * k ∧ PH w T T wr) (fun _ i _ => 20 - (intOf i).toNat)
  case atStart => exact ⟨0, [], by omega, by omega, rfl, rfl, by simp, HST.out⟩
  case round =>
    clear HST
    obtain ⟨k, T, hk, hk20, rfl, rfl, hT, hP⟩ := hrel
    have HP : Hid (PH w T T wr) := hP
    clear hP
    by_cases hlt : k < len ∧ k < 20
    · obtain ⟨hlt, h20⟩ := hlt
      obtain ⟨b, off, rfl, hc, hb, hs⟩ := strs_at HR.out hlt
      have hc' := bel_cell HP.out.2.2.2 hb hc
      have hx : ((strAt ss k).extract 0 200).size ≤ 200 := by rw [few_size]; omega
      clear hc
      generalize strAt ss k = X0 at *
      go_wp2_with (go_at_call 6; refine (few200 _ _ hs).mono ?_; rintro e w1 ⟨rfl, rfl⟩)
      generalize X0.extract 0 200 = X at *
      refine (write_any w.heap.size T X _ HP.out.1 (by omega) HP.out.2.2.1).mono ?_
      rintro e w2 ⟨rfl, hh2, hg2⟩
      have HP2 : Hid (PH w (T ++ X.data.toList) T w2) := HP.out.first hh2 hg2 hpos
      clear hh2 hg2 HP hc'
      go_wp2_with fail
      refine (write_any (w.heap.size + 1) T X _ HP2.out.2.1 (by omega) HP2.out.2.2.1).mono ?_
      rintro e w3 ⟨rfl, hh3, hg3⟩
      have HP3 : Hid (PH w (T ++ X.data.toList) (T ++ X.data.toList) w3) := HP2.out.second hh3 hg3 hpos
      have HX : Hid (_ = _) := tx_cat T X
      have hT' : (T ++ X.data.toList).length ≤ 200 * (k + 1) := by rw [List.length_append, size_data]; omega
      have ht : (tx T).size ≤ 4000 := by rw [tx_size]; omega
      clear hh3 hg3 HP2
      by_cases hk1 : k < len1
      · obtain ⟨b1, off1, rfl, hc1, hb1⟩ := bs_at HQ.out hk1
        have hc1' := bel_cell HP3.out.2.2.2 hb1 hc1
        clear hc1
        by_cases hf : f k = true
        · rw [hf] at hc1'
          go_wp2_with fail
          refine (hsum_any w.heap.size (T ++ X.data.toList) _ HP3.out.1 (by omega) HP3.out.2.2.1).mono ?_
          rintro e w4 ⟨rfl, hb4⟩
          have HP4 : Hid (PH w (T ++ X.data.toList) (T ++ X.data.toList) w4) := HP3.out.below hb4
          clear hb4 HP3 hc1'
          go_wp2_with fail
          refine (sum_cat T X _ (by omega) HP4.out.2.2.1).mono ?_
          rintro e w5 ⟨rfl, hb5⟩
          have HP5 : Hid (PH w (T ++ X.data.toList) (T ++ X.data.toList) w5) := HP4.out.below hb5
          clear hb5 HP4
          go_wp2
          go_roundw
          case rel => exact ⟨k + 1, T ++ X.data.toList, by omega, by omega, by go_num, by rw [HX.out], hT', HP5.out⟩
          case measure => simp [intOf]; omega
        · have hf' : f k = false := by simpa using hf
          rw [hf'] at hc1'
          go_wp2
          go_roundw
          case rel => exact ⟨k + 1, T ++ X.data.toList, by omega, by omega, by go_num, by rw [HX.out], hT', HP3.out⟩
          case measure => simp [intOf]; omega
      · go_wp2
        go_roundw
        case rel => exact ⟨k + 1, T ++ X.data.toList, by omega, by omega, by go_num, by rw [HX.out], hT', HP3.out⟩
        case measure => simp [intOf]; omega
    · have hd : ¬ (k : Int) < (len : Int) ∨ ¬ (k : Int) < 20 := by omega
      have ht : T.length ≤ 4000 := by omega
      have HS : Hid (shaS (tx T).data.toList = shaS T) := rfl
      have hts : (tx T).size ≤ 140737488351232 := by rw [tx_size]; omega
      have ENDS : Hid (∀ W, PH w T T W → Calls Tryd.prog 8 #[] W fun e w' => e = .returned (.bool true) ∧ PH w T T w') := fun W h => (awake2_any W h.2.2.1).mono fun e w' ⟨h1, h2⟩ => ⟨h1, h.below h2⟩
      have SUM1 : Hid (∀ W, PH w T T W → Calls Tryd.prog 15 #[.pointer (some ⟨w.heap.size, 0, none⟩)] W fun e w' => e = .returned (.string (shaS T)) ∧ PH w T T w') := fun W h => (hsum_any _ T W h.1 (by omega) h.2.2.1).mono fun e w' ⟨h1, h2⟩ => ⟨h1, h.below h2⟩
      have SUM2 : Hid (∀ W, PH w T T W → Calls Tryd.prog 15 #[.pointer (some ⟨w.heap.size + 1, 0, none⟩)] W fun e w' => e = .returned (.string (shaS T)) ∧ PH w T T w') := fun W h => (hsum_any _ T W h.2.1 (by omega) h.2.2.1).mono fun e w' ⟨h1, h2⟩ => ⟨h1, h.below h2⟩
      have SUM3 : Hid (∀ W, PH w T T W → Calls Tryd.prog 9 #[.string (tx T)] W fun e w' => e = .returned (.string (shaS T)) ∧ PH w T T w') := fun W h => (sum_any _ W hts h.2.2.1).mono fun e w' ⟨h1, h2⟩ => ⟨h1, h.below h2⟩
      clear hT HR HQ
      have fin : ∀ W, PH w T T W → Below w.heap.size w W := fun W h => h.2.2.2
      by_cases hl2 : k < len
      · have h20 : ¬ (k : Int) < 20 := by omega
        go_wp2_with fail
        refine (ENDS.out _ HP.out).mono ?_
        rintro e w1 ⟨rfl, h1⟩
        go_wp2_with fail
        refine (SUM1.out _ h1).mono ?_
        rintro e w2 ⟨rfl, h2⟩
        go_wp2_with fail
        refine (SUM3.out _ h2).mono ?_
        rintro e w3 ⟨rfl, h3⟩
        go_wp2_with fail
        refine (SUM2.out _ h3).mono ?_
        rintro e w4 ⟨rfl, h4⟩
        go_wp2_with fail
        refine (SUM3.out _ h4).mono ?_
        rintro e w5 ⟨rfl, h5⟩
        go_wp2_with fail
        refine (SUM1.out _ h5).mono ?_
        rintro e w6 ⟨rfl, h6⟩
        go_wp2_with fail
        refine (SUM2.out _ h6).mono ?_
        rintro e w7 ⟨rfl, h7⟩
        clear h1 h2 h3 h4 h5 h6
        go_wp2
        go_ret
        exact ⟨rfl, fin _ h7⟩
      · have hl3 : ¬ (k : Int) < (len : Int) := by omega
        go_wp2_with fail
        refine (ENDS.out _ HP.out).mono ?_
        rintro e w1 ⟨rfl, h1⟩
        go_wp2_with fail
        refine (SUM1.out _ h1).mono ?_
        rintro e w2 ⟨rfl, h2⟩
        go_wp2_with fail
        refine (SUM3.out _ h2).mono ?_
        rintro e w3 ⟨rfl, h3⟩
        go_wp2_with fail
        refine (SUM2.out _ h3).mono ?_
        rintro e w4 ⟨rfl, h4⟩
        go_wp2_with fail
        refine (SUM3.out _ h4).mono ?_
        rintro e w5 ⟨rfl, h5⟩
        go_wp2_with fail
        refine (SUM1.out _ h5).mono ?_
        rintro e w6 ⟨rfl, h6⟩
        go_wp2_with fail
        refine (SUM2.out _ h6).mono ?_
        rintro e w7 ⟨rfl, h7⟩
        clear h1 h2 h3 h4 h5 h6
        go_wp2
        go_ret
        exact ⟨rfl, fin _ h7⟩
end Go.Proofs.YtkphgjaklkfcfabDoor
