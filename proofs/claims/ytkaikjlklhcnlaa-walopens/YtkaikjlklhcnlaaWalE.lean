/- Contracts: wal's replace, extend, Format. -/
import Derived.Test.YtkaikjlklhcnlaaWalL
import Derived.Test.YtkaikjlklhcnlaaStrT
import Derived.Test.YtkaikjlklhcnlaaDskG
import Derived.Test.YtkaikjlklhcnlaaDskI
namespace Go.Proofs.Ytkaikjlklhcnlaa
open Go.RowKit Go.Maps
set_option linter.unusedVariables false
set_option linter.unusedSimpArgs false

/-- At most so many names and steps. -/
def LB (S : DS) (n : Nat) : Prop := S.now.length ≤ n ∧ S.steps.length ≤ n
theorem LB.die {S : DS} {n : Nat} (h : LB S n) : LB (dieS S) n := by
  unfold dieS; split
  · exact h
  · split <;> exact h
theorem LB.up {S : DS} {n m : Nat} (h : LB S n) (hm : n ≤ m) : LB S m := ⟨Nat.le_trans h.1 hm, Nat.le_trans h.2 hm⟩
theorem LB.take {S : DS} {n : Nat} (h : LB S n) (s : Stp) : LB (takeS S s) (n + 1) := by
  refine ⟨?_, ?_⟩
  · show (doF S.now s).length ≤ _; have := doF_len S.now s; have := h.1; omega
  · show (S.steps ++ [s]).length ≤ _; have := h.2; simp; omega
theorem LB.rm {S : DS} {n : Nat} (h : LB S n) (x : List UInt8) : LB (rmS S x) (n + 1) := by
  unfold rmS; split
  · split
    · exact h.die.take _
    · exact h.die.up (by omega)
  · exact h.die.up (by omega)
theorem LB.se {S : DS} {n : Nat} (h : LB S n) : LB (seS S) n := by
  unfold seS; split
  · exact h.die
  · exact ⟨h.die.1, Nat.zero_le _⟩
theorem LB.ap {S : DS} {n : Nat} (h : LB S n) (x X : List UInt8) (g : Nat) : LB (apS S x X g) (n + 1) := by
  unfold apS; split
  · split
    · have := h.die.up (show n ≤ n + 1 by omega); exact this
    · have := h.die.take ⟨0, g, x, []⟩; exact this
  · exact h.die.up (by omega)
theorem LB.sy {S : DS} {n : Nat} (h : LB S n) (x : List UInt8) : LB (syS S x) n := by
  unfold syS; split
  · exact h.die
  · split
    · have := h.die; exact this
    · exact h.die
theorem DK.fresh {w : World} {d : Nat} {S : DS} {K : Nat → Prop} {gs : List Nat} (h : DK w d S K gs) : w.heap.size ∉ gs := fun hm => by
  obtain ⟨_, _, _, _, h⟩ := h; have := (h.file _ hm).lt; omega
def RepP (S : DS) (X : List UInt8) (w : World) (d : Nat) (K : Nat → Prop) (gs : List Nat) (z : Int) (w' : World) : Prop :=
  ∃ g gs', z = (repS S X g).1 ∧ DK w' d (repS S X g).2 K gs' ∧ g ∉ gs ∧ (∀ k ∈ gs, k ∈ gs') ∧ Keeps K w w'
theorem RepP.e0 {S : DS} {X : List UInt8} {w : World} {d : Nat} {K : Nat → Prop} {gs : List Nat} {w1 : World} (hf : w.heap.size ∉ gs) (h0 : syE S tmpN ≠ 0) (h7 : syE S tmpN ≠ 7) (hd : DK w1 d (rmS S tmpN) K gs) (hk : Keeps K w w1) : RepP S X w d K gs (syE S tmpN) w1 := by
  have e : ∀ g, repS S X g = (syE S tmpN, rmS S tmpN) := fun g => by unfold repS; rw [if_neg (by rintro (h | h); exact h0 h; exact h7 h)]
  exact ⟨w.heap.size, gs, by rw [e], by rw [e]; exact hd, hf, fun k hk => hk, hk⟩
theorem RepP.e1 {S : DS} {X : List UInt8} {w : World} {d : Nat} {K : Nat → Prop} {gs : List Nat} {w1 : World} (hf : w.heap.size ∉ gs) (h0 : syE S tmpN = 0 ∨ syE S tmpN = 7) (h1 : seE (rmS S tmpN) ≠ 0) (hd : DK w1 d (seS (rmS S tmpN)) K gs) (hk : Keeps K w w1) : RepP S X w d K gs (seE (rmS S tmpN)) w1 := by
  have e : ∀ g, repS S X g = (seE (rmS S tmpN), seS (rmS S tmpN)) := fun g => by unfold repS; rw [if_pos h0]; unfold rep1; rw [if_neg h1]
  exact ⟨w.heap.size, gs, by rw [e], by rw [e]; exact hd, hf, fun k hk => hk, hk⟩
theorem rep_2 {S : DS} {X : List UInt8} {g : Nat} (h0 : syE S tmpN = 0 ∨ syE S tmpN = 7) (h1 : seE (rmS S tmpN) = 0) : repS S X g = rep2 (seS (rmS S tmpN)) X g := by
  unfold repS; rw [if_pos h0]; unfold rep1; rw [if_pos h1]
theorem neq_facts {z : Int} (h : z ≠ 0) : (z == 0) = false ∧ (z != 0) = true := ⟨by rw [beq_eq_false_iff_ne]; exact h, by rw [bne_iff_ne]; exact h⟩
theorem neq_facts7 {z : Int} (h : z ≠ 7) : (z == 7) = false ∧ (z != 7) = true := ⟨by rw [beq_eq_false_iff_ne]; exact h, by rw [bne_iff_ne]; exact h⟩
set_option maxRecDepth 100000 in
set_option maxHeartbeats 2000000 in
theorem replace_any {d : Nat} {S : DS} {K : Nat → Prop} {gs : List Nat} (X : List UInt8) (w : World) (h : DK w d S K gs) (hX : X.length ≤ 1099511627776) (hl : LB S 1000) :
    Calls Try.prog 38 #[.pointer (some ⟨d, 0, none⟩), .string (mkT X)] w fun e w' => ∃ z, e = .returned (.int .i64 z) ∧ RepP S X w d K gs z w' := by
  have HD : Hid (DK w d S K gs) := h
  have HF : Hid (w.heap.size ∉ gs) := h.fresh
  have HL : Hid (LB S 1000) := hl
  clear h hl
  have HR : Hid (Calls Try.prog _ _ _ _) := remove_any tmpN w HD.out (by decide) (by have := HL.out.1; omega) (by have := HL.out.2; omega)
  obtain ⟨T, hT⟩ : ∃ T, T = mkT X := ⟨_, rfl⟩
  have HT : Hid (T = mkT X) := hT
  rw [← hT]
  clear hT
  go_enter Try.func38, Try.ntmps38
  go_wp2_with fail
  refine HR.out.mono ?_
  rintro e w1 ⟨rfl, hd1, hk1⟩
  have HD1 : Hid _ := hd1
  have HK1 : Hid (Keeps K w w1) := hk1
  clear hd1 hk1 HR
  have HL1 : Hid (LB (rmS S tmpN) 1001) := HL.out.rm _
  by_cases h0 : syE S tmpN = 0 ∨ syE S tmpN = 7
  · have H0 : Hid (syE S tmpN = 0 ∨ syE S tmpN = 7) := h0
    rcases h0 with e0 | e0
    all_goals
      rw [e0]
      clear e0
      go_wp2_with fail
      refine (settle_any w1 HD1.out).mono ?_
      rintro e w2 ⟨rfl, hd2, hk2⟩
      have HD2 : Hid _ := hd2
      have HK2 : Hid (Keeps K w w2) := HK1.out.trans hk2
      clear hd2 hk2
      have HL2 : Hid (LB (seS (rmS S tmpN)) 1001) := HL1.out.se
      by_cases h1 : seE (rmS S tmpN) = 0
      · have HE2 : Hid (∀ g, repS S X g = rep2 (seS (rmS S tmpN)) X g) := fun g => rep_2 H0.out h1
        rw [h1]
        clear h1 HD1 HK1 HL1
        generalize seS (rmS S tmpN) = S2 at *
        have HA : Hid (Calls Try.prog _ _ _ _) := append_any tmpN X w2 HD2.out (by decide) hX (by have := HL2.out.1; omega) (by have := HL2.out.2; omega)
        go_wp2_with fail
        rw [show T = mkT X from HT.out]
        refine HA.out.mono ?_
        rintro e w3 ⟨rfl, ⟨g, gs3, hd3, hg3, hs3⟩, hk3⟩
        have HD3 : Hid _ := hd3
        have HK3 : Hid (Keeps K w w3) := HK2.out.trans hk3
        have HG : Hid (g ∉ gs ∧ ∀ k ∈ gs, k ∈ gs3) := ⟨hg3, hs3⟩
        clear hd3 hk3 hg3 hs3 HA
        have HL3 : Hid (LB (apS S2 tmpN X g) 1002) := HL2.out.ap _ _ _
        have HE3 := HE2.out g
        by_cases h3 : apE S2 tmpN X = 0
        · have HF3 : Hid (repS S X g = rep3 (apS S2 tmpN X g)) := by unfold Hid; rw [HE3]; unfold rep2; rw [if_pos h3]
          rw [h3]
          clear h3 HE3 HD2 HK2 HL2
          generalize apS S2 tmpN X g = S3 at *
          go_wp2_with fail
          refine (sync_any tmpN w3 HD3.out (by decide)).mono ?_
          rintro e w4 ⟨rfl, hd4, hk4⟩
          have HD4 : Hid _ := hd4
          have HK4 : Hid (Keeps K w w4) := HK3.out.trans hk4
          clear hd4 hk4
          have HL4 : Hid (LB (syS S3 tmpN) 1002) := HL3.out.sy _
          by_cases h4 : syE S3 tmpN = 0
          · have HF4 : Hid (repS S X g = rep4 (syS S3 tmpN)) := by unfold Hid; rw [HF3.out]; unfold rep3; rw [if_pos h4]
            rw [h4]
            clear h4 HF3 HD3 HK3 HL3
            generalize syS S3 tmpN = S4 at *
            go_wp2_with fail
            refine (rename_any tmpN logN w4 HD4.out (by decide) (by decide) (by have := HL4.out.1; omega) (by have := HL4.out.2; omega)).mono ?_
            rintro e w5 ⟨rfl, hd5, hk5⟩
            have HD5 : Hid _ := hd5
            have HK5 : Hid (Keeps K w w5) := HK4.out.trans hk5
            clear hd5 hk5
            by_cases h5 : rnE S4 tmpN logN = 0
            · have HF5 : Hid (repS S X g = (seE (rnS S4 tmpN logN), seS (rnS S4 tmpN logN))) := by unfold Hid; rw [HF4.out]; unfold rep4; rw [if_pos h5]; rfl
              rw [h5]
              clear h5 HF4 HD4 HK4 HL4
              generalize rnS S4 tmpN logN = S5 at *
              go_wp2_with fail
              refine (settle_any w5 HD5.out).mono ?_
              rintro e w6 ⟨rfl, hd6, hk6⟩
              have HD6 : Hid _ := hd6
              have HK6 : Hid (Keeps K w w6) := HK5.out.trans hk6
              clear hd6 hk6
              go_wp2
              go_ret
              exact ⟨_, rfl, g, gs3, by rw [HF5.out], by rw [HF5.out]; exact HD6.out, HG.out.1, HG.out.2, HK6.out⟩
            · have HF5 : Hid (repS S X g = (rnE S4 tmpN logN, rnS S4 tmpN logN)) := by unfold Hid; rw [HF4.out]; unfold rep4; rw [if_neg h5]
              obtain ⟨z0, z1⟩ := neq_facts h5
              clear h5
              generalize rnE S4 tmpN logN = z at *
              go_wp2
              go_ret
              exact ⟨_, rfl, g, gs3, by rw [HF5.out], by rw [HF5.out]; exact HD5.out, HG.out.1, HG.out.2, HK5.out⟩
          · have HF4 : Hid (repS S X g = (syE S3 tmpN, syS S3 tmpN)) := by unfold Hid; rw [HF3.out]; unfold rep3; rw [if_neg h4]
            obtain ⟨z0, z1⟩ := neq_facts h4
            clear h4
            generalize syE S3 tmpN = z at *
            go_wp2
            go_ret
            exact ⟨_, rfl, g, gs3, by rw [HF4.out], by rw [HF4.out]; exact HD4.out, HG.out.1, HG.out.2, HK4.out⟩
        · have HF3 : Hid (repS S X g = (apE S2 tmpN X, apS S2 tmpN X g)) := by unfold Hid; rw [HE3]; unfold rep2; rw [if_neg h3]
          obtain ⟨z0, z1⟩ := neq_facts h3
          clear h3 HE3
          generalize apE S2 tmpN X = z at *
          go_wp2
          go_ret
          exact ⟨_, rfl, g, gs3, by rw [HF3.out], by rw [HF3.out]; exact HD3.out, HG.out.1, HG.out.2, HK3.out⟩
      · have HP : Hid (RepP S X w d K gs (seE (rmS S tmpN)) w2) := RepP.e1 HF.out H0.out h1 HD2.out HK2.out
        obtain ⟨z0, z1⟩ := neq_facts h1
        clear h1
        generalize seE (rmS S tmpN) = z at *
        go_wp2
        go_ret
        exact ⟨_, rfl, HP.out⟩
  · have h00 : syE S tmpN ≠ 0 := fun e => h0 (.inl e)
    have h07 : syE S tmpN ≠ 7 := fun e => h0 (.inr e)
    have HP : Hid (RepP S X w d K gs (syE S tmpN) w1) := RepP.e0 HF.out h00 h07 HD1.out HK1.out
    obtain ⟨z0, z1⟩ := neq_facts h00
    obtain ⟨z2, z3⟩ := neq_facts7 h07
    clear h0 h00 h07
    generalize syE S tmpN = z at *
    go_wp2
    go_ret
    exact ⟨_, rfl, HP.out⟩
def ExtP (S : DS) (X : List UInt8) (w : World) (d : Nat) (K : Nat → Prop) (gs : List Nat) (z : Int) (w' : World) : Prop :=
  ∃ g gs', z = (extS S X g).1 ∧ DK w' d (extS S X g).2 K gs' ∧ g ∉ gs ∧ (∀ k ∈ gs, k ∈ gs') ∧ Keeps K w w'
set_option maxRecDepth 100000 in
set_option maxHeartbeats 2000000 in
theorem extend_any {d : Nat} {S : DS} {K : Nat → Prop} {gs : List Nat} (X : List UInt8) (w : World) (h : DK w d S K gs) (hX : X.length ≤ 1099511627776) (hl : LB S 1000) :
    Calls Try.prog 39 #[.pointer (some ⟨d, 0, none⟩), .string (mkT X)] w fun e w' => ∃ z, e = .returned (.int .i64 z) ∧ ExtP S X w d K gs z w' := by
  have HD : Hid (DK w d S K gs) := h
  have HF : Hid (w.heap.size ∉ gs) := h.fresh
  have HL2 : Hid (LB (seS S) 1000) := hl.se
  clear h hl
  obtain ⟨T, hT⟩ : ∃ T, T = mkT X := ⟨_, rfl⟩
  have HT : Hid (T = mkT X) := hT
  rw [← hT]
  clear hT
  go_enter Try.func39, Try.ntmps39
  go_wp2_with fail
  refine (settle_any w HD.out).mono ?_
  rintro e w2 ⟨rfl, hd2, hk2⟩
  have HD2 : Hid _ := hd2
  have HK2 : Hid (Keeps K w w2) := hk2
  clear hd2 hk2
  by_cases h1 : seE S = 0
  · have HE2 : Hid (∀ g, extS S X g = ext1 (seS S) X g) := fun g => by unfold extS; rw [if_pos h1]
    rw [h1]
    clear h1
    generalize seS S = S2 at *
    have HA : Hid (Calls Try.prog _ _ _ _) := append_any logN X w2 HD2.out (by decide) hX (by have := HL2.out.1; omega) (by have := HL2.out.2; omega)
    go_wp2_with fail
    rw [show T = mkT X from HT.out]
    refine HA.out.mono ?_
    rintro e w3 ⟨rfl, ⟨g, gs3, hd3, hg3, hs3⟩, hk3⟩
    have HD3 : Hid _ := hd3
    have HK3 : Hid (Keeps K w w3) := HK2.out.trans hk3
    have HG : Hid (g ∉ gs ∧ ∀ k ∈ gs, k ∈ gs3) := ⟨hg3, hs3⟩
    clear hd3 hk3 hg3 hs3 HA
    have HE3 := HE2.out g
    by_cases h3 : apE S2 logN X = 0
    · have HF3 : Hid (extS S X g = (syE (apS S2 logN X g) logN, syS (apS S2 logN X g) logN)) := by unfold Hid; rw [HE3]; unfold ext1; rw [if_pos h3]; rfl
      rw [h3]
      clear h3 HE3 HD2 HK2
      generalize apS S2 logN X g = S3 at *
      go_wp2_with fail
      refine (sync_any logN w3 HD3.out (by decide)).mono ?_
      rintro e w4 ⟨rfl, hd4, hk4⟩
      have HD4 : Hid _ := hd4
      have HK4 : Hid (Keeps K w w4) := HK3.out.trans hk4
      clear hd4 hk4
      go_wp2
      go_ret
      exact ⟨_, rfl, g, gs3, by rw [HF3.out], by rw [HF3.out]; exact HD4.out, HG.out.1, HG.out.2, HK4.out⟩
    · have HF3 : Hid (extS S X g = (apE S2 logN X, apS S2 logN X g)) := by unfold Hid; rw [HE3]; unfold ext1; rw [if_neg h3]
      obtain ⟨z0, z1⟩ := neq_facts h3
      clear h3 HE3
      generalize apE S2 logN X = z at *
      go_wp2
      go_ret
      exact ⟨_, rfl, g, gs3, by rw [HF3.out], by rw [HF3.out]; exact HD3.out, HG.out.1, HG.out.2, HK3.out⟩
  · have e : ∀ g, extS S X g = (seE S, seS S) := fun g => by unfold extS; rw [if_neg h1]
    have HP : Hid (ExtP S X w d K gs (seE S) w2) := ⟨w.heap.size, gs, by rw [e], by rw [e]; exact HD2.out, HF.out, fun k hk => hk, HK2.out⟩
    obtain ⟨z0, z1⟩ := neq_facts h1
    clear h1 e
    generalize seE S = z at *
    go_wp2
    go_ret
    exact ⟨_, rfl, HP.out⟩
set_option maxRecDepth 100000 in
theorem format_any {d : Nat} {S : DS} {K : Nat → Prop} {gs : List Nat} (w : World) (h : DK w d S K gs) (hl : LB S 1000) :
    Calls Try.prog 29 #[.pointer (some ⟨d, 0, none⟩)] w fun e w' => ∃ z, e = .returned (.int .i64 z) ∧ RepP S [] w d K gs z w' := by
  have HR : Hid (Calls Try.prog _ _ _ _) := replace_any [] w h (by simp) hl
  clear h hl
  go_enter Try.func29, Try.ntmps29
  go_wp2_with fail
  refine HR.out.mono ?_
  rintro e w1 ⟨z, rfl, hp⟩
  have HP : Hid (RepP S [] w d K gs z w1) := hp
  clear hp HR
  go_wp2
  go_ret
  exact ⟨_, rfl, HP.out⟩
end Go.Proofs.Ytkaikjlklhcnlaa
