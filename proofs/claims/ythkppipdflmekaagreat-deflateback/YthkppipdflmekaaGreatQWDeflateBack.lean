/- DeflateBack: the walk. -/
import Derived.Test.YthkppipdflmekaaGreatQStoB
import Derived.Test.YthkppipdflmekaaGreatQStoR
import Derived.Test.YthkppipdflmekaaGreatQRIn
import Derived.Test.YthkppipdflmekaaGreatQPutA
import Derived.Test.YthkppipdflmekaaGreatQAwake7
set_option maxRecDepth 100000
set_option maxHeartbeats 2000000
namespace Go.Proofs.YthkppipdflmekaaGreat
open Go.RowKit
set_option linter.unusedVariables false
set_option linter.unusedSimpArgs false
theorem qwr (s : ByteArray) (w : World) (hs : s.size ≤ 9223372036854775807) :
    Calls Tryz.prog 4 #[.string s, .int .i64 2000] w fun e w' => e = .returned (.string (s.extract 0 2000)) ∧ w' = w := q25 s 2000 w (by decide) hs
theorem qz2 {S d : ByteArray} {v : Nat} (h : qmg S v d) (h1 : S.size ≤ 2000) : d.size ≤ (stoF S.data.toList).length ∧ (stoF S.data.toList).length = 5 + S.size := by
 have hst : (stoF S.data.toList).length = 5 + S.size := by
  rw [qeg (by simp; omega), qf1]; simp
 refine ⟨?_, hst⟩
 obtain ⟨bs, hb, ⟨rfl, h2⟩ | ⟨h1, h2⟩⟩ := h
 · exact h2
 · have hz : d.size = (stoF S.data.toList).length := by rw [← h1]; simp
   omega
theorem lawDeflateBack_walk (s : ByteArray) (lv : Int) (w : World) (h1 : s.size ≤ 140737488351232) (hlv : -9223372036854775808 ≤ lv ∧ lv ≤ 9223372036854775807) :
    Calls Tryz.prog 3 #[.string s, .int .i64 lv] w fun e w' => e = .returned (.bool true) ∧ Below w.heap.size w w' := by
 have g1 : (s.extract 0 2000).size ≤ 2000 := by rw [qzv]; omega
 have HF1 : Hid (∀ W, Calls Tryz.prog 4 #[.string s, .int .i64 2000] W fun e w' => e = .returned (.string (s.extract 0 2000)) ∧ w' = W) := fun W => qwr s W (by omega)
 generalize hS : s.extract 0 2000 = S at *
 clear hS
 by_cases hbad : lv < 0 ∨ 9 < lv
 · have HD : Hid (∀ W, Calls Tryz.prog 5 #[.string S, .int .i64 lv] W fun e w' => e = .returned (.tuple #[.string ⟨#[]⟩, .int .i64 1]) ∧ w' = W) := fun W => qpo S lv W hbad
   have hb1 : (lv < 0 ∧ True) ∨ (¬ lv < 0 ∧ 9 < lv) := by
    by_cases h : lv < 0
    · exact .inl ⟨h, trivial⟩
    · exact .inr ⟨h, by omega⟩
   clear hbad
   go_enter Tryz.func3, Tryz.ntmps3
   go_wp2_with fail
   refine (HF1.out _).mono ?_
   rintro e w1 ⟨rfl, hw⟩
   obtain rfl : w = w1 := hw.symm
   clear hw
   go_wp2_with fail
   refine (HD.out _).mono ?_
   rintro e w1 ⟨rfl, hw⟩
   obtain rfl : w = w1 := hw.symm
   clear hw
   rcases hb1 with ⟨hb1, -⟩ | ⟨hb1, hb2⟩
   · go_wp2_with fail
     refine (qg1 _).mono ?_
     rintro e w5 ⟨rfl, hb5⟩
     go_wp2
     go_ret
     exact ⟨rfl, hb5⟩
   · go_wp2_with fail
     refine (qg1 _).mono ?_
     rintro e w5 ⟨rfl, hb5⟩
     go_wp2
     go_ret
     exact ⟨rfl, hb5⟩
 · obtain ⟨v, rfl⟩ : ∃ v : Nat, lv = (v : Int) := ⟨lv.toNat, by omega⟩
   have hv : v ≤ 9 := by omega
   have hv1 : ¬ (v : Int) < 0 := by omega
   have hv2 : ¬ (9 : Int) < (v : Int) := by omega
   clear hbad hlv
   have HD1 : Hid (∀ W, Calls Tryz.prog 5 #[.string S, .int .i64 (v : Int)] W fun e w' => e = .returned (.tuple #[.string (defF S v), .int .i64 0]) ∧ qmg S v (defF S v) ∧ Below W.heap.size W w') := fun W => qt0 S v W hv (by omega)
   have HST : Hid (∀ W, Calls Tryz.prog 9 #[.string S] W fun e w' => (∃ r, e = .returned (.string r) ∧ r.data.toList = stoF S.data.toList ∧ r.size ≤ 10 * S.size + 10) ∧ Below W.heap.size W w') := fun W => qov (S.size + 1) S W (by omega) (by omega)
   generalize defF S v = d at *
   go_enter Tryz.func3, Tryz.ntmps3
   go_wp2_with fail
   refine (HF1.out _).mono ?_
   rintro e w1 ⟨rfl, hw⟩
   obtain rfl : w = w1 := hw.symm
   clear hw
   go_wp2_with fail
   refine (HD1.out _).mono ?_
   rintro e w2 ⟨rfl, hd1, hb2⟩
   have HB2 : Hid (Below w.heap.size w w2) := hb2
   obtain ⟨hz1, hz2⟩ := qz2 hd1 g1
   obtain ⟨l, q, e1, e2, e3⟩ := (qw2 hd1 (by omega) S.size).2 (Nat.le_refl _)
   have HI : Hid (∀ W, Calls Tryz.prog 7 #[.string d, .int .i64 0, .int .i64 (S.size : Int)] W fun e w' => e = .returned (.tuple #[.string S, .int .i64 (d.size : Int), .int .i64 0]) ∧ Below W.heap.size W w') := fun W => by
    refine (qnm d d 0 S.size _ W (Nat.zero_le _) (by omega) (by omega) (by simp) e1).mono ?_
    rintro e w' (⟨l', q', h, rfl, h2, hb⟩ | ⟨er, h, _⟩)
    · obtain ⟨rfl, rfl⟩ := Prod.mk.inj (Except.ok.inj h)
      rw [e2, e3]
      exact ⟨rfl, hb⟩
    · cases h
   have HJ : Hid (∀ W, Calls Tryz.prog 8 #[.string d, .int .i64 0, .int .i64 (S.size : Int)] W fun e w' => e = .returned (.tuple #[.string S, .int .i64 (d.size : Int), .int .i64 0]) ∧ Below W.heap.size W w') := fun W => by
    refine (qm1 d d 0 S.size _ W (Nat.zero_le _) (by omega) (by omega) (by simp) e1).mono ?_
    rintro e w' (⟨l', q', h, rfl, h2, hb⟩ | ⟨er, h, _⟩)
    · obtain ⟨rfl, rfl⟩ := Prod.mk.inj (Except.ok.inj h)
      rw [e2, e3]
      exact ⟨rfl, hb⟩
    · cases h
   have HZ : Hid (d.size ≤ 5 + S.size ∧ (stoF S.data.toList).length = 5 + S.size) := ⟨by omega, hz2⟩
   have hdz : d.size ≤ 2005 := by omega
   clear hb2 hd1 hz1 hz2 e1 e2 e3 HD1 HF1
   go_wp2_with fail
   refine (HI.out _).mono ?_
   rintro e w3 ⟨rfl, hb3⟩
   have HB3 : Hid (Below w.heap.size w w3) := HB2.out.trans (hb3.mono HB2.out.size)
   clear hb3 HB2 HI
   go_wp2_with fail
   refine (HJ.out _).mono ?_
   rintro e w4 ⟨rfl, hb4⟩
   have HB4 : Hid (Below w.heap.size w w4) := HB3.out.trans (hb4.mono HB3.out.size)
   clear hb4 HB3 HJ
   go_wp2_with fail
   refine (qg1 _).mono ?_
   rintro e w5 ⟨rfl, hb5⟩
   have HB5 : Hid (Below w.heap.size w w5) := HB4.out.trans (hb5.mono HB4.out.size)
   clear hb5 HB4
   go_wp2_with fail
   refine (HST.out _).mono ?_
   rintro e w6 ⟨⟨r, rfl, hr, hrs⟩, hb6⟩
   have HB6 : Hid (Below w.heap.size w w6) := HB5.out.trans (hb6.mono HB5.out.size)
   have hle : (d.size : Int) ≤ (r.size : Int) := by
    have h1 := HZ.out
    have h2 : r.size = (stoF S.data.toList).length := by rw [← hr]; simp
    omega
   clear hb6 HB5 hr HST
   go_wp2
   go_ret
   exact ⟨rfl, HB6.out⟩
end Go.Proofs.YthkppipdflmekaaGreat
