/- The walk of WalParses. -/
import Derived.Test.YtkaikjlklhcnlaaAwk15
import Derived.Test.YtkaikjlklhcnlaaRWal
import Derived.Test.YtkaikjlklhcnlaaFew
namespace Go.Proofs.Ytkaikjlklhcnlaa
open Go.RowKit Go.Maps
set_option linter.unusedVariables false
set_option linter.unusedSimpArgs false

set_option maxRecDepth 100000 in
set_option maxHeartbeats 2000000 in
theorem lawWalParses_walk (s r : ByteArray) (w : World) (hs : s.size ≤ 140737488351232) (hr : r.size ≤ 140737488351232) :
    Calls Try.prog 3 #[.string s, .string r] w fun e w' => e = .returned (.bool true) ∧ Below w.heap.size w w' := by
  go_enter Try.func3, Try.ntmps3
  go_wp2_with fail
  refine (few_any s 3000 w (by decide) (by omega)).mono ?_
  rintro e w1 ⟨rfl, e1⟩
  have e2 := e1.symm
  subst e2
  clear e1
  have hS := few_size s 3000
  rw [show (3000 : Int).toNat = 3000 from rfl]
  generalize s.extract 0 3000 = S at *
  have hS2 : S.size ≤ 3000 := by omega
  clear hS hs
  go_wp2_with fail
  refine (few_any r 1000 w (by decide) (by omega)).mono ?_
  rintro e w1 ⟨rfl, e1⟩
  have e2 := e1.symm
  subst e2
  clear e1
  have hR := few_size r 1000
  rw [show (1000 : Int).toNat = 1000 from rfl]
  generalize r.extract 0 1000 = R at *
  have hR2 : R.size ≤ 1000 := by omega
  clear hR hr
  have HP0 := fun W => parse_any S.data.toList W (by rw [size_toList]; omega)
  rw [mkT_self] at HP0
  have HP : Hid (∀ W, Calls Try.prog _ _ W _) := HP0
  have HQ0 := fun W => rparse_any S.data.toList W (by rw [size_toList]; omega)
  rw [mkT_self] at HQ0
  have HQ : Hid (∀ W, Calls Try.prog _ _ W _) := HQ0
  have HF0 := fun W => frame_any R.data.toList W (by rw [size_toList]; omega)
  rw [mkT_self] at HF0
  have HF : Hid (∀ W, Calls Try.prog _ _ W _) := HF0
  have HG0 := fun W => rframe_any R.data.toList W (by rw [size_toList]; omega)
  rw [mkT_self] at HG0
  have HG : Hid (∀ W, Calls Try.prog _ _ W _) := HG0
  have hle := (prs_facts 200 S.data.toList).1
  clear HP0 HQ0 HF0 HG0
  generalize (prs 200 S.data.toList).1 = rs at *
  generalize (prs 200 S.data.toList).2 = t at *
  generalize mkT (frm R.data.toList) = FR at *
  go_wp2_with fail
  refine (HP.out _).mono ?_
  rintro e w1 ⟨v1, rfl, hO1, hb1⟩
  obtain ⟨a1, c1, rfl⟩ := hO1.shape
  have HO1 : Hid (RS w1 (.slice a1 rs.length c1) rs) := hO1.rs
  have HB1 : Hid (Below w.heap.size w w1) := hb1
  clear hO1 hb1 HP
  go_wp2_with fail
  refine (HQ.out _).mono ?_
  rintro e w2 ⟨v2, rfl, hO2, hb2⟩
  obtain ⟨a2, c2, rfl⟩ := hO2.shape
  have HO2 : Hid (RS w2 (.slice a2 rs.length c2) rs) := hO2.rs
  have HO12 : Hid (RS w2 (.slice a1 rs.length c1) rs) := HO1.out.below hb2
  have HB2 : Hid (Below w.heap.size w w2) := HB1.out.trans (hb2.mono HB1.out.size)
  clear hO2 hb2 HQ HO1 HB1
  go_wp2_with fail
  refine (awake15_any w2).mono ?_
  rintro e w3 ⟨rfl, hb3⟩
  have HB3 : Hid (Below w.heap.size w w3) := HB2.out.trans (hb3.mono HB2.out.size)
  have HSM0 := same_any (.slice a1 rs.length c1) (.slice a2 rs.length c2) rs rs w3 (HO12.out.below hb3) (HO2.out.below hb3) (by omega) (by omega)
  rw [show sameN rs rs = 0 from if_pos rfl] at HSM0
  have HSM : Hid (Calls Try.prog _ _ _ _) := HSM0
  clear hb3 HSM0 HO12 HO2 HB2
  go_wp2_with fail
  refine HSM.out.mono ?_
  rintro e w4 ⟨rfl, n, rfl⟩
  have HB4 : Hid (Below w.heap.size w (w3.drewN n)) := bdrewN HB3.out n
  clear HSM
  go_wp2_with fail
  refine (HF.out _).mono ?_
  rintro e w5 ⟨rfl, hb5⟩
  have HB5 : Hid (Below w.heap.size w w5) := HB4.out.trans (hb5.mono HB4.out.size)
  clear hb5 HF HB4
  go_wp2_with fail
  refine (HG.out _).mono ?_
  rintro e w6 ⟨rfl, hb6⟩
  have HB6 : Hid (Below w.heap.size w w6) := HB5.out.trans (hb6.mono HB5.out.size)
  clear hb6 HG HB5
  go_wp2
  go_ret
  exact ⟨rfl, HB6.out⟩
end Go.Proofs.Ytkaikjlklhcnlaa
