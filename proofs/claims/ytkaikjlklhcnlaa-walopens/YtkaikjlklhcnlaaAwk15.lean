/- What the document fixes of a log. -/
import Derived.Test.YtkaikjlklhcnlaaWalI
namespace Go.Proofs.Ytkaikjlklhcnlaa
open Go.RowKit Go.Maps
set_option linter.unusedVariables false
set_option linter.unusedSimpArgs false

theorem frm_a : frm [97] = [1, 0, 0, 0, 97, 67, 190, 183, 232] := by decide +kernel
theorem add_free {S : DS} {T : Fo} {a : Nat} {B X : List UInt8} {R : Fo} {g : Nat} (h : LF S T a B B.length R) (hd : S.dead = false) (hl : S.left < 0) (hsp : (usd S.fl S.now : Int) + X.length ≤ S.room) :
    (extS S X g).1 = 0 ∧ Done S (extS S X g).2 T a (B ++ X) R := by
  obtain ⟨N, hN⟩ : ∃ N, ∀ p ∈ T, (S.fl p.2).1.length ≤ N := by
    rcases h.tt with rfl | ⟨t, rfl, _⟩
    · exact ⟨0, fun p hp => by cases hp⟩
    · exact ⟨(S.fl t).1.length, fun p hp => by rw [List.mem_singleton] at hp; subst hp; exact Nat.le_refl _⟩
  rcases ext_any (g := g) h hd hsp hN with h | ⟨_, h, _⟩
  · exact h
  · omega
theorem fmt_new (room : Int) (hr : 0 ≤ room) (g : Nat) : (repS (newS room) [] g).1 = 0 ∧ Done (newS room) (repS (newS room) [] g).2 [] g [] [] :=
  fresh_rep rfl rfl (show (-1 : Int) < 0 by decide) (fun p hp => by cases hp) (by simp [usd]; exact hr)
set_option maxRecDepth 100000 in
set_option maxHeartbeats 2000000 in
theorem awake15_any (w : World) : Calls Try.prog 12 #[] w fun e w' => e = .returned (.bool true) ∧ Below w.heap.size w w' := by
  go_enter Try.func12, Try.ntmps12
  go_wp2_with fail
  refine (new_good 1000 w (by decide) (by decide)).mono ?_
  rintro e w1 ⟨d, rfl, hd1, hb1⟩
  have HK1 : Hid (Keeps (fun k => k < w.heap.size) w w1) := Keeps.of_below hb1 (fun k hk => hk)
  have HF : Hid (Calls Try.prog _ _ _ _) := format_any w1 hd1 ⟨by simp [newS], by simp [newS]⟩
  clear hd1 hb1
  go_wp2_with fail
  refine HF.out.mono ?_
  rintro e w2 ⟨z, rfl, g, gs2, hz, hd2, _, _, hk2⟩
  obtain ⟨e1, hdn⟩ := fmt_new 1000 (by decide) g
  rw [e1] at hz
  subst hz
  have HDN : Hid (Done (newS 1000) (repS (newS 1000) [] g).2 [] g [] []) := hdn
  have HD2 : Hid _ := hd2
  have HK2 : Hid (Keeps (fun k => k < w.heap.size) w w2) := HK1.out.trans hk2
  clear hd2 hk2 HF HK1 e1 hdn
  generalize (repS (newS 1000) [] g).2 = S2 at *
  have q1 : rdE S2 logN = 0 := by
    unfold rdE; rw [HDN.out.dead, if_neg (by decide), HDN.out.lf.lkl, if_neg (by simp)]
  have q2 : rdV S2 logN = [] := by
    unfold rdV; rw [HDN.out.dead, if_neg (by decide), HDN.out.lf.lkl]; simp only [HDN.out.lf.fa]
  have hpn : prs 200 [] = ([], 0) := prs_nil 200
  have HO := open_good w2 HD2.out q1 (by rw [q2]; simp)
  rw [q2, hpn] at HO
  have HO' : Hid (Calls Try.prog _ _ _ _) := HO
  have HQ : Hid (rdE S2 logN = 0 ∧ rdV S2 logN = []) := ⟨q1, q2⟩
  clear HO q1 q2 hpn
  go_wp2_with fail
  refine HO'.out.mono ?_
  rintro e w3 ⟨lb, K3, rfl, hld, hkk, hlb, hb3⟩
  have HLD : Hid (LD w3 lb d S2 K3 gs2 [] false) := hld
  have HK3 : Hid (Keeps (fun k => k < w.heap.size) w w3) := HK2.out.trans (Keeps.of_below hb3 (fun k hk => Nat.lt_of_lt_of_le hk HK2.out.size))
  have HKK : Hid (∀ k, k < w.heap.size → K3 k ∧ k ≠ lb) := fun k hk => ⟨hkk k hk, by have := HK2.out.size; omega⟩
  have HA := add_ext [120] w3 hld (by decide) HQ.out.1 ⟨by rw [HDN.out.lf.now]; simp, by rw [HDN.out.lf.steps]; simp⟩ (by rw [HQ.out.2, prs_nil]; decide) (by rw [HQ.out.2, prs_nil]; rfl)
  rw [HQ.out.2, prs_nil] at HA
  have HA' : Hid (Calls Try.prog _ _ _ _) := HA
  clear hld hkk hlb hb3 HO' HA HK2 HD2
  go_wp2_with fail
  refine HA'.out.mono ?_
  rintro e w4 ⟨z, rfl, ⟨K4, gs4, g4, hz, hld4, _, _, hkk4⟩, hk4, hsp4⟩
  obtain ⟨e1, hdn4⟩ := add_free (g := g4) (X := frm [120]) HDN.out.lf HDN.out.dead (by rw [HDN.out.left (show (-1 : Int) < 0 by decide)]; show (-1 : Int) < 0; decide) (by
    rw [HDN.out.lf.now, HDN.out.room]; simp only [List.nil_append, usd_cons, HDN.out.lf.fa, frm_len]; simp [usd, newS])
  rw [e1] at hz
  subst hz
  obtain ⟨hd4, v4, hg4⟩ := hld4
  rw [if_pos rfl, if_pos rfl] at hg4
  have HG4 : Hid (LG w4 lb d K4 [[120]] false v4) := hg4
  have HK4 : Hid (Keeps (fun k => k < w.heap.size) w w4) := HK3.out.trans (hk4.mono HKK.out)
  have HR : Hid (Calls Try.prog _ _ _ _) := records_any w4 hg4 (by decide)
  clear hd4 hg4 hkk4 hk4 HA' e1 hdn4 HLD HKK HK3 HDN HQ
  go_wp2_with fail
  refine HR.out.mono ?_
  rintro e w5 ⟨v5, rfl, hO5, hb5⟩
  have HK5 : Hid (Keeps (fun k => k < w.heap.size) w w5) := HK4.out.trans (Keeps.of_below hb5 (fun k hk => Nat.lt_of_lt_of_le hk HK4.out.size))
  have HR6 : Hid (Calls Try.prog _ _ _ _) := records_any w5 (HG4.out.below hb5 (fun k hk => hk)) (by decide)
  obtain ⟨a5, c5, rfl⟩ := hO5.shape
  clear hO5 hb5 HR HK4
  go_wp2_with fail
  refine HR6.out.mono ?_
  rintro e w6 ⟨v6, rfl, hO6, hb6⟩
  have HK6 : Hid (Keeps (fun k => k < w.heap.size) w w6) := HK5.out.trans (Keeps.of_below hb6 (fun k hk => Nat.lt_of_lt_of_le hk HK5.out.size))
  obtain ⟨a6, c6, rfl, hc6⟩ := hO6.rs
  obtain ⟨g6, rfl, _, hc⟩ := hc6 (by simp)
  have hc0 : w6.cell? ⟨g6, 0, none⟩ = some (.string (mkT [120])) := hc 0 (by simp)
  have hq : ((mkT [120]).toList == [120]) = true := by rw [mkT_toList]; decide
  have HFA : Hid (Calls Try.prog _ _ _ _) := frame_any [97] w6 (by decide)
  have hqf : ((mkT (frm [97])).toList == [1, 0, 0, 0, 97, 67, 190, 183, 232]) = true := by rw [mkT_toList, frm_a]; decide
  clear hO6 hb6 hc6 hc HR6 HK5
  generalize mkT [120] = T1 at *
  generalize mkT (frm [97]) = T2 at *
  go_wp2_with fail
  refine HFA.out.mono ?_
  rintro e w7 ⟨rfl, hb7⟩
  have HK7 : Hid (Keeps (fun k => k < w.heap.size) w w7) := HK6.out.trans (Keeps.of_below hb7 (fun k hk => Nat.lt_of_lt_of_le hk HK6.out.size))
  clear hb7 HFA
  go_wp2
  go_ret
  exact ⟨rfl, HK7.out.below⟩
end Go.Proofs.Ytkaikjlklhcnlaa
