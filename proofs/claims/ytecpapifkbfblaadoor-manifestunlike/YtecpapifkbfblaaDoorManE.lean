/- Contracts: the reader of a manifest: take, text. -/
import Derived.Test.YtecpapifkbfblaaDoorManD
namespace Go.Proofs.YtecpapifkbfblaaDoor
open Go.RowKit
set_option linter.unusedVariables false
set_option linter.unusedSimpArgs false

theorem mNum_le (s : Sx) : (mNum s).2.rest.length ≤ s.rest.length := by
  unfold mNum; split
  · exact Nat.le_refl _
  · simp
theorem mNum_lt (s : Sx) : (mNum s).1 ≤ 1099511627776 := by
  unfold mNum; split
  · exact Nat.zero_le _
  · rename_i h; simp only; omega
theorem mTake_le (n : Nat) (s : Sx) : (mTake n s).2.rest.length ≤ s.rest.length := by
  unfold mTake; split
  · exact Nat.le_refl _
  · simp
theorem RX.kept {w w' : World} {g : Nat} {s : Sx} (h : RX w g s) (hb : Below w.heap.size w w') : RX w' g s := (hb.block g h.lt).trans h
set_option maxRecDepth 100000 in
set_option maxHeartbeats 1000000 in
theorem rtake_any (g n : Nat) (s : Sx) (w : World) (h : RX w g s) (hl : s.rest.length ≤ 1000000000) (hn : n ≤ 100000000000000) :
    Calls Tryd.prog 56 #[.pointer (some ⟨g, 0, none⟩), .int .i64 (n : Int)] w fun e w' => e = .returned (.string (mkB (mTake n s).1)) ∧ RX w' g (mTake n s).2 ∧ w.grownBy w' (some g) := by
  have c0 := h.c0
  have c1 := h.c1
  have f0 := h.fz 0
  have f1 := h.fz 1
  have hz := mkB_size s.rest
  have hext := extX_drop s.rest n
  have hext2 := extX_take s.rest n
  have HS1 : Hid (RX (w.setCell ⟨g, 1, none⟩ (.bool true)) g ⟨s.rest, true⟩) := h.set1 true
  have HX : Hid (RX w g s) := h
  have HG1 : Hid (w.grownBy (w.setCell ⟨g, 1, none⟩ (.bool true)) (some g)) := gset (grefl w _) 1 _
  have HCL : Hid (Calls Tryd.prog _ _ _ _) := clone_any (mkB (s.rest.take n)) w (by rw [mkB_size, List.length_take]; omega)
  have HFN : Hid (∀ w1, Below w.heap.size w w1 → s.bad = false → RX (w1.setCell ⟨g, 0, none⟩ (.string (mkB (s.rest.drop n)))) g ⟨s.rest.drop n, false⟩ ∧ w.grownBy (w1.setCell ⟨g, 0, none⟩ (.string (mkB (s.rest.drop n)))) (some g)) := fun w1 hb hs => by
    have := (h.kept hb).set0 (s.rest.drop n)
    rw [hs] at this
    exact ⟨this, gset (gbelow hb) 0 _⟩
  have HCF : Hid (∀ w1, Below w.heap.size w w1 → w1.cell? ⟨g, 0, none⟩ = some (.string (mkB s.rest)) ∧ w1.frozen? ⟨g, 0, none⟩ = false) := fun w1 hb => ⟨(h.kept hb).c0, (h.kept hb).fz 0⟩
  have HE : Hid (mTake n s = if s.bad = true ∨ s.rest.length < n then ([], ⟨s.rest, true⟩) else (s.rest.take n, ⟨s.rest.drop n, false⟩)) := rfl
  obtain ⟨sr, sb⟩ := s
  dsimp only at *
  clear h
  obtain ⟨sl, hsl⟩ : ∃ sl, sl = sr.length := ⟨_, rfl⟩
  rw [← hsl] at hz hext hl HE
  clear hsl
  by_cases hlt : sl < n
  · rw [if_pos (.inr hlt)] at HE
    rw [HE.out]
    have hli : (sl : Int) < (n : Int) := by omega
    go_enter Tryd.func56, Tryd.ntmps56
    go_wp2
    go_ret
    exact ⟨rfl, HS1.out, HG1.out⟩
  · have hli : ¬ (sl : Int) < (n : Int) := by omega
    have hli2 : (n : Int) ≤ (sl : Int) := by omega
    cases sb
    · rw [if_neg (by simp; omega)] at HE
      rw [HE.out]
      go_enter Tryd.func56, Tryd.ntmps56
      go_wp2_with fail
      refine HCL.out.mono ?_
      rintro e w1 ⟨rfl, hb1⟩
      obtain ⟨d0, e0⟩ := HCF.out _ hb1
      have HZ := HFN.out _ hb1 (by first | rfl | trivial)
      have HZZ : Hid (_ ∧ _) := HZ
      clear HZ HFN HCF hb1
      go_wp2
      go_ret
      exact ⟨rfl, HZZ.out.1, HZZ.out.2⟩
    · rw [if_pos (.inl rfl)] at HE
      rw [HE.out]
      go_enter Tryd.func56, Tryd.ntmps56
      go_wp2
      go_ret
      exact ⟨rfl, HX.out, grefl _ _⟩
/-- The next text. -/
def mTxt (s : Sx) : List UInt8 × Sx := mTake (mNum s).1 (mNum s).2
set_option maxRecDepth 100000 in
set_option maxHeartbeats 1000000 in
theorem rtext_any (g : Nat) (s : Sx) (w : World) (h : RX w g s) (hl : s.rest.length ≤ 1000000000) :
    Calls Tryd.prog 58 #[.pointer (some ⟨g, 0, none⟩)] w fun e w' => e = .returned (.string (mkB (mTxt s).1)) ∧ RX w' g (mTxt s).2 ∧ w.grownBy w' (some g) := by
  have HN : Hid (Calls Tryd.prog _ _ _ _) := rnum_any g s w h hl
  have HT : Hid (∀ W, RX W g (mNum s).2 → _) := fun W hW => rtake_any g (mNum s).1 (mNum s).2 W hW (Nat.le_trans (mNum_le s) hl) (Nat.le_trans (mNum_lt s) (by decide))
  have HE : Hid (mTxt s = mTake (mNum s).1 (mNum s).2) := rfl
  rw [HE.out]
  clear h
  generalize (mNum s).2 = s2 at *
  generalize (mNum s).1 = N at *
  generalize mTake N s2 = R at *
  go_enter Tryd.func58, Tryd.ntmps58
  go_wp2_with fail
  refine HN.out.mono ?_
  rintro e w1 ⟨rfl, hr1, hg1⟩
  have HR1 : Hid (_) := hr1
  have HG1 : Hid (_) := hg1
  clear hr1 hg1
  go_wp2_with fail
  refine (HT.out _ HR1.out).mono ?_
  rintro e w2 ⟨rfl, hr2, hg2⟩
  have HR2 : Hid (_) := hr2
  have HG2 : Hid (_) := gtrans HG1.out hg2
  clear hr2 hg2
  go_wp2
  go_ret
  exact ⟨rfl, HR2.out, HG2.out⟩
end Go.Proofs.YtecpapifkbfblaaDoor
