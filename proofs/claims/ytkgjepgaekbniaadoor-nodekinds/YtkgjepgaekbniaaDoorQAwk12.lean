/- The law's awake (layer 12). -/
import Derived.Test.YtkgjepgaekbniaaDoorQNodG
import Derived.Test.YtkgjepgaekbniaaDoorQNodP
namespace Go.Proofs.YtkgjepgaekbniaaDoor
open Go.RowKit
set_option linter.unusedVariables false
set_option linter.unusedSimpArgs false

theorem nkind_any (n : Nd) (v : Value) (w : World) (h : NV w v n) :
    Calls Tryd.prog 8 #[v] w fun e w' => e = .returned (.int .i64 (kindN n)) ∧ w' = w := by
  have HK : Hid (Calls _ _ _ _ _) := kindOf_any n v w h
  unfold Hid at HK
  generalize kindN n = kk at *
  have hform : (∃ T y, v = .iface T y) ∨ v = .nilIface := by
    cases n with
    | fol => exact .inl ⟨_, _, h⟩
    | pla => obtain ⟨y, h1, _⟩ := h; exact .inl ⟨_, _, h1⟩
    | sym => exact .inl ⟨_, _, h⟩
    | ptr => obtain ⟨b, h1, _⟩ := h; exact .inl ⟨_, _, h1⟩
    | non => exact .inr h
  rcases hform with ⟨T, y, rfl⟩ | rfl
  all_goals
    go_enter Tryd.func8, Tryd.ntmps8
    go_wp2_with fail
    refine (HK : Calls _ _ _ _ _).mono ?_
    rintro e w1 ⟨rfl, rfl⟩
    go_wp2
    go_ret
    exact ⟨rfl, rfl⟩
def awF : Nd := .fol [97] 5 9
theorem aw_a : isL [97] = true := by
  have h1 : parts [97] = [[97]] := by decide
  have n1 : nameL [97] = true := by
    unfold nameL; rw [runesOk_cons (by simp)]
    have : rn [97] = (97, 1) := by decide
    rw [this]; simp [runesOk_nil, okR, brk]
  unfold isL
  rw [h1]
  simp [n1]
theorem aw_chk : checkN [awF] = 0 := by
  have u : unfitN awF = 0 := by
    unfold unfitN awF
    simp only [kindN, atN, aw_a, formN, datedN]
    decide
  unfold checkN
  rw [if_neg (by simp)]
  unfold chkN
  rw [u, if_neg (by simp), if_neg (by decide), if_neg (by decide)]
  unfold chkN
  rfl
theorem aw_enc : encN [awF] = [1, 1, 1, 97, 5, 9] := by
  have v1 : vb 1 = [1] := by unfold vb; rw [varN]; rfl
  have v5 : vb 5 = [5] := by unfold vb; rw [varN]; rfl
  have v9 : vb 9 = [9] := by unfold vb; rw [varN]; rfl
  unfold encN awF tldN headB
  simp [v1, v5, v9]
theorem aw_dec : decN [0] = ([], 0) := by
  have h : encN [] = [0] := by unfold encN vb; rw [varN]; rfl
  rw [← h]
  exact dec_enc [] (by unfold checkN chkN; rfl)
set_option maxRecDepth 100000 in
set_option maxHeartbeats 1000000 in
theorem awake12_any (w : World) (hL : Lay11 w) : Calls Tryd.prog 7 #[] w fun e w' => e = .returned (.bool true) ∧ Below w.heap.size w w' := by
  have HB0 : Hid (Below w.heap.size w (w.alloc (.cells #[.iface 42 (.agg #[.string (mkB [97]), .int .i64 5, .int .i64 9])] 26))) := (Below.refl _ _).alloc (Nat.le_refl _) _
  have hLN : LN (w.alloc (.cells #[.iface 42 (.agg #[.string (mkB [97]), .int .i64 5, .int .i64 9])] 26)) (.slice (some ⟨w.heap.size, 0, none⟩) 1 1) [awF] := by
    refine ⟨some ⟨w.heap.size, 0, none⟩, 1, rfl, by simp, fun i hi => ⟨⟨w.heap.size, 0, none⟩, .iface 42 (.agg #[.string (mkB [97]), .int .i64 5, .int .i64 9]), rfl, ?_, ?_⟩⟩
    · have : i = 0 := by simp at hi; omega
      subst this
      simp [Addr.add_lit]
    · have : i = 0 := by simp at hi; omega
      subst this
      rfl
  have H1 : Hid (Calls _ _ _ _ _) := encode_any [awF] _ _ hLN (by intro n hn; simp at hn; subst hn; show [97].length ≤ _; decide) (hL.below HB0.out) (by simp)
  unfold Hid at H1
  have hR : encR [awF] = [1, 1, 1, 97, 5, 9] := by unfold encR; rw [if_pos aw_chk, aw_enc]
  rw [hR, aw_chk] at H1
  clear hLN hR
  have hml := mkB_list2 [1, 1, 1, 97, 5, 9]
  have HS : Hid (∀ w', NV w' (.iface 44 zS) (.sym [] 0 0 [])) := fun w' => rfl
  go_enter Tryd.func7, Tryd.ntmps7
  go_wp2_with fail
  refine (H1 : Calls _ _ _ _ _).mono ?_
  rintro e w1 ⟨rfl, hb1⟩
  have HB1 : Hid (Below w.heap.size w w1) := belN HB0.out hb1
  clear H1 hb1 HB0
  have H2 : Hid (Calls _ _ _ _ _) := decode_any [0] w1 (by decide) (hL.below HB1.out)
  unfold Hid at H2
  rw [aw_dec] at H2
  go_wp2_with fail
  refine (H2 : Calls _ _ _ _ _).mono ?_
  rintro e w2 ⟨v2, rfl, hO2, hb2⟩
  have HB2 : Hid (Below w.heap.size w w2) := belN HB1.out hb2
  obtain ⟨a2, c2, hv2⟩ : ∃ a c, v2 = .slice a 0 c := by obtain ⟨a, c, hv, _⟩ := hO2.ln; exact ⟨a, c, hv⟩
  subst hv2
  clear H2 hb2 hO2 HB1
  go_wp2_with fail
  refine (nkind_any _ _ _ (HS.out _)).mono ?_
  rintro e w3 ⟨rfl, rfl⟩
  go_wp2
  go_ret
  exact ⟨rfl, HB2.out⟩
end Go.Proofs.YtkgjepgaekbniaaDoor
