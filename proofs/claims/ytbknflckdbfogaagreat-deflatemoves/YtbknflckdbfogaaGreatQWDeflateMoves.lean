/- DeflateMoves: the walk. -/
import Derived.Test.YtbknflckdbfogaaGreatQStoB
import Derived.Test.YtbknflckdbfogaaGreatQPutA
import Derived.Test.YtbknflckdbfogaaGreatQAwake7
namespace Go.Proofs.YtbknflckdbfogaaGreat
open Go.RowKit
set_option linter.unusedVariables false
set_option linter.unusedSimpArgs false

theorem tl_ne {a b : ByteArray} (h : ¬ a = b) : (a.toList == b.toList) = false := beq_eq_false_iff_ne.2 fun e => h (ba_ext (by rw [ByteArray.toList_eq, ByteArray.toList_eq] at e; exact e))
theorem def_unlike {S T A : ByteArray} {v : Nat} (hs : DefOk S v A) (ht : DefOk T v A) (h1 : S.size ≤ 500) (h2 : T.size ≤ 500) : S = T := by
  obtain ⟨l, q, e1, _, e3⟩ := (def_reads hs (by omega) 500).2 h1
  obtain ⟨l', q', e1', _, e3'⟩ := (def_reads ht (by omega) 500).2 h2
  rw [e1] at e1'
  obtain ⟨rfl, rfl⟩ := Prod.mk.inj (Except.ok.inj e1')
  rw [← e3, ← e3']
theorem def_back {S A F C : ByteArray} {v : Nat} (hs : DefOk S v A) (h1 : S.size ≤ 500) (h3 : F.size ≤ 500) (h4 : C.size ≤ 500) (hA : A.size ≤ 1000000) (W : World) :
    Calls Tryz.prog 8 #[.string (F ++ A ++ C), .int .i64 (F.size : Int), .int .i64 500] W fun e w' => e = .returned (.tuple #[.string S, .int .i64 (A.size : Int), .int .i64 0]) ∧ Below W.heap.size W w' := by
  obtain ⟨l, q, e1, e2, e3⟩ := def_anywhere hs (by omega) 500 h1 C
  refine (inflate_good (F ++ A ++ C) (A ++ C) F.size 500 _ W (by rw [ByteArray.size_append, ByteArray.size_append]; omega) (by decide) (by rw [ByteArray.size_append, ByteArray.size_append]; omega) (mid_eq F A C) e1).mono ?_
  rintro e w9 (⟨l', q', h', rfl, _, hb9⟩ | ⟨er, h', _⟩)
  · obtain ⟨rfl, rfl⟩ := Prod.mk.inj (Except.ok.inj h')
    rw [e2, e3]
    exact ⟨rfl, hb9⟩
  · cases h'
theorem def_small {S A : ByteArray} {v : Nat} (hs : DefOk S v A) (h1 : S.size ≤ 500) : A.size ≤ 1000000 := by
  have hst : (stoF S.data.toList).length = 5 + S.size := by
    rw [stoF_last (by simp; omega), sblk_len]; simp
  obtain ⟨bs, hb, ⟨rfl, h2⟩ | ⟨h1, h2⟩⟩ := hs
  · omega
  · have hz : A.size = (stoF S.data.toList).length := by rw [← h1]; simp
    omega
set_option maxRecDepth 100000 in
set_option maxHeartbeats 2000000 in
theorem lawDeflateMoves_walk (s t front back : ByteArray) (lv : Int) (w : World) (h1 : s.size ≤ 140737488351232) (h2 : t.size ≤ 140737488351232) (h3 : front.size ≤ 140737488351232) (h4 : back.size ≤ 140737488351232) (hlv : -9223372036854775808 ≤ lv ∧ lv ≤ 9223372036854775807) :
    Calls Tryz.prog 4 #[.string s, .string t, .string front, .string back, .int .i64 lv] w fun e w' => e = .returned (.bool true) ∧ Below w.heap.size w w' := by
  have g1 : (s.extract 0 500).size ≤ 500 := by rw [few_size]; omega
  have g2 : (t.extract 0 500).size ≤ 500 := by rw [few_size]; omega
  have g3 : (front.extract 0 500).size ≤ 500 := by rw [few_size]; omega
  have g4 : (back.extract 0 500).size ≤ 500 := by rw [few_size]; omega
  have HF1 : Hid (∀ W, Calls Tryz.prog 11 #[.string s] W fun e w' => e = .returned (.string (s.extract 0 500)) ∧ w' = W) := fun W => few7_any s W (by omega)
  have HF2 : Hid (∀ W, Calls Tryz.prog 11 #[.string t] W fun e w' => e = .returned (.string (t.extract 0 500)) ∧ w' = W) := fun W => few7_any t W (by omega)
  have HF3 : Hid (∀ W, Calls Tryz.prog 11 #[.string front] W fun e w' => e = .returned (.string (front.extract 0 500)) ∧ w' = W) := fun W => few7_any front W (by omega)
  have HF4 : Hid (∀ W, Calls Tryz.prog 11 #[.string back] W fun e w' => e = .returned (.string (back.extract 0 500)) ∧ w' = W) := fun W => few7_any back W (by omega)
  generalize hS : s.extract 0 500 = S at *
  generalize hT : t.extract 0 500 = T at *
  generalize hF : front.extract 0 500 = F at *
  generalize hC : back.extract 0 500 = C at *
  clear hS hT hF hC
  by_cases hbad : lv < 0 ∨ 9 < lv
  · have HD : Hid (∀ (x : ByteArray) W, Calls Tryz.prog 6 #[.string x, .int .i64 lv] W fun e w' => e = .returned (.tuple #[.string ⟨#[]⟩, .int .i64 1]) ∧ w' = W) := fun x W => deflate_bad x lv W hbad
    clear hbad
    go_enter Tryz.func4, Tryz.ntmps4
    go_wp2_with fail
    refine (HF1.out _).mono ?_
    rintro e w1 ⟨rfl, hw⟩
    obtain rfl : w = w1 := hw.symm
    clear hw
    go_wp2_with fail
    refine (HF2.out _).mono ?_
    rintro e w1 ⟨rfl, hw⟩
    obtain rfl : w = w1 := hw.symm
    clear hw
    go_wp2_with fail
    refine (HD.out S _).mono ?_
    rintro e w1 ⟨rfl, hw⟩
    obtain rfl : w = w1 := hw.symm
    clear hw
    go_wp2_with fail
    refine (HD.out T _).mono ?_
    rintro e w1 ⟨rfl, hw⟩
    obtain rfl : w = w1 := hw.symm
    clear hw
    go_wp2_with fail
    refine (awake7_any _).mono ?_
    rintro e w5 ⟨rfl, hb5⟩
    go_wp2
    go_ret
    exact ⟨rfl, hb5⟩
  · obtain ⟨v, rfl⟩ : ∃ v : Nat, lv = (v : Int) := ⟨lv.toNat, by omega⟩
    have hv : v ≤ 9 := by omega
    clear hbad hlv
    have HD1 : Hid (∀ W, Calls Tryz.prog 6 #[.string S, .int .i64 (v : Int)] W fun e w' => e = .returned (.tuple #[.string (defF S v), .int .i64 0]) ∧ DefOk S v (defF S v) ∧ Below W.heap.size W w') := fun W => deflate_is S v W hv (by omega)
    have HD2 : Hid (∀ W, Calls Tryz.prog 6 #[.string T, .int .i64 (v : Int)] W fun e w' => e = .returned (.tuple #[.string (defF T v), .int .i64 0]) ∧ DefOk T v (defF T v) ∧ Below W.heap.size W w') := fun W => deflate_is T v W hv (by omega)
    have HEQ : Hid (S = T → defF S v = defF T v) := fun e => by rw [e]
    generalize defF S v = A at *
    generalize defF T v = B at *
    go_enter Tryz.func4, Tryz.ntmps4
    go_wp2_with fail
    refine (HF1.out _).mono ?_
    rintro e w1 ⟨rfl, hw⟩
    obtain rfl : w = w1 := hw.symm
    clear hw
    go_wp2_with fail
    refine (HF2.out _).mono ?_
    rintro e w1 ⟨rfl, hw⟩
    obtain rfl : w = w1 := hw.symm
    clear hw
    go_wp2_with fail
    refine (HD1.out _).mono ?_
    rintro e w2 ⟨rfl, hd1, hb2⟩
    have HB2 : Hid (Below w.heap.size w w2) := hb2
    have HA : Hid (DefOk S v A) := hd1
    clear hb2 hd1
    go_wp2_with fail
    refine (HD2.out _).mono ?_
    rintro e w3 ⟨rfl, hd2, hb3⟩
    have HB3 : Hid (Below w.heap.size w w3) := HB2.out.trans (hb3.mono HB2.out.size)
    have HB : Hid (DefOk T v B) := hd2
    clear hb3 hd2
    have hAz := def_small HA.out g1
    have HAZ : Hid (A.size ≤ 1000000) := hAz
    have HQ : Hid (∀ W, Calls Tryz.prog 8 #[.string (F ++ A ++ C), .int .i64 (F.size : Int), .int .i64 500] W fun e w' => e = .returned (.tuple #[.string S, .int .i64 (A.size : Int), .int .i64 0]) ∧ Below W.heap.size W w') := fun W => def_back HA.out g1 g3 g4 HAZ.out W
    go_wp2_with fail
    refine (HF3.out _).mono ?_
    rintro e w1 ⟨rfl, hw⟩
    obtain rfl : w3 = w1 := hw.symm
    clear hw
    go_wp2_with fail
    refine (HF4.out _).mono ?_
    rintro e w1 ⟨rfl, hw⟩
    obtain rfl : w3 = w1 := hw.symm
    clear hw
    go_wp2_with fail
    refine (HF3.out _).mono ?_
    rintro e w1 ⟨rfl, hw⟩
    obtain rfl : w3 = w1 := hw.symm
    clear hw
    go_wp2_with fail
    refine (HQ.out _).mono ?_
    rintro e w4 ⟨rfl, hb4⟩
    have HB4 : Hid (Below w.heap.size w w4) := HB3.out.trans (hb4.mono HB3.out.size)
    clear hb4
    go_wp2_with fail
    refine (awake7_any _).mono ?_
    rintro e w5 ⟨rfl, hb5⟩
    have HB5 : Hid (Below w.heap.size w w5) := HB4.out.trans (hb5.mono HB4.out.size)
    clear hb5
    by_cases hst : S = T
    · have hab := HEQ.out hst
      subst hst
      subst hab
      go_wp2
      go_ret
      exact ⟨by simp, HB5.out⟩
    · have hab := tl_ne (a := A) (b := B) fun e => hst (def_unlike HA.out (e ▸ HB.out) g1 g2)
      have hst' := tl_ne hst
      go_wp2
      go_ret
      exact ⟨by simp [hab, hst'], HB5.out⟩
end Go.Proofs.YtbknflckdbfogaaGreat
