/- A call of a log that may die, and a crash behind it (pure). -/
import Derived.Test.YtkaikjlklhcnlaaWalJ
namespace Go.Proofs.Ytkaikjlklhcnlaa
set_option linter.unusedVariables false
set_option linter.unusedSimpArgs false

theorem torn_len {t : List UInt8} (h : TornB t) : t.length ≤ 5008 := by
  rcases h with rfl | ⟨r, k, h1, h2, rfl⟩
  · simp
  · rw [List.length_take, frm_len]; omega
theorem done_crash {S1 S2 : DS} {T T' : Fo} {a a' : Nat} {B X : List UInt8} {o : Nat} {room : Int} {N : Nat} {S : DS} (h : LW S T a B o room N) (h1 : S1.fl = S.fl) (h2 : S1.room = S.room) (hd : Done S1 S2 T' a' X [(othN, o)]) (hT : T' = T ∨ T' = []) (ks : List Int) :
    S2.sure.length + S2.steps.length ≤ 100 ∧ LW (crS S2 ks) T' a' X o room N := by
  have hl : T'.length ≤ 1 := by rcases hd.lf.tt with rfl | ⟨t, rfl, _⟩ <;> simp
  refine ⟨by rw [hd.lf.sure, hd.lf.steps]; simp; omega, ?_⟩
  obtain ⟨m, m1, m2, m3, m4, m5, m6, m7, m8⟩ := hd.lf.crash ks
  obtain rfl : m = X.length := by omega
  rw [List.take_length] at m3
  refine ⟨m3, ?_, m6, m7, by rw [m8, hd.room, h2, h.room], fun p hp => ?_⟩
  · rw [m4 _ List.mem_cons_self, hd.rest _ List.mem_cons_self, h1]; exact h.oth
  · refine Nat.le_trans (m5 p hp) ?_
    rw [hd.tmp p hp, h1]
    rcases hT with rfl | rfl
    · exact h.tmp p hp
    · cases hp
theorem died_crash {S S2 : DS} {T : Fo} {a : Nat} {B : List UInt8} {o : Nat} {room room' : Int} {N L : Nat} {old new : List UInt8 → Prop} {fl : Nat → List UInt8 × Nat} (h : LW S T a B o room N) (h1 : fl = S.fl) (h2 : room' = room) (hD : Died S2 old new room' [(othN, o)] fl N L) (ks : List Int) :
    ∃ T' a' B', LW (crS S2 ks) T' a' B' o room N ∧ (old B' ∨ new B') := by
  obtain ⟨T', a', B', q1, q2, q3, q4, q5, q6, q7⟩ := hD.left ks
  refine ⟨T', a', B', ⟨q1, ?_, q5, q6, by rw [q7, h2], q4⟩, q2⟩
  rw [q3 _ List.mem_cons_self, h1]; exact h.oth
/-- How a call ended, and what a crash leaves then. -/
structure CrP (r : Int × DS) (ks : List Int) (o : Nat) (room : Int) (N : Nat) (rs rn : List (List UInt8)) : Prop where
  z : r.1 = 0 ∨ r.1 = 10
  len : r.2.sure.length + r.2.steps.length ≤ 100
  left : ∃ T a rs' t, LW (crS r.2 ks) T a (frs rs' ++ t) o room N ∧ TornB t ∧ (rs' = rn ∨ r.1 = 10 ∧ rs' = rs)
theorem crash_ext {S : DS} {T : Fo} {a : Nat} {o : Nat} {room : Int} {N : Nat} {rs : List (List UInt8)} (h : LW S T a (frs rs) o room N) (arm : Int) (s : List UInt8) (hs : s.length ≤ 5000) (g : Nat) (ks : List Int) (hr : ((N + (frs rs).length + 9 + (s.length + 8) : Nat) : Int) ≤ room) :
    CrP (extS { S with left := arm } (frm s) g) ks o room N rs (rs ++ [s]) := by
  have hu := h.used
  have hlf : LF { S with left := arm } T a (frs rs) (frs rs).length [(othN, o)] := h.lf.same rfl rfl rfl rfl
  rcases ext_any (S := { S with left := arm }) (g := g) (X := frm s) hlf h.dead (by show (usd S.fl S.now : Int) + _ ≤ S.room; rw [h.room, frm_len]; omega) h.tmp with ⟨e, hd⟩ | ⟨e, _, hD⟩
  · obtain ⟨q1, q2⟩ := done_crash (S1 := { S with left := arm }) h rfl rfl hd (.inl rfl) ks
    exact ⟨.inl e, q1, T, a, rs ++ [s], [], by rw [List.append_nil, frs_snoc]; exact q2, .inl rfl, .inl rfl⟩
  · obtain ⟨T', a', B', q1, q2⟩ := died_crash h (room' := S.room) rfl h.room hD ks
    refine ⟨.inr e, by have := hD.len; simp at this; omega, ?_⟩
    rcases q2 with ⟨m, m1, m2, rfl⟩ | q2
    · rw [List.length_append, frm_len] at m2
      by_cases hm : m = (frs rs).length + (s.length + 8)
      · refine ⟨T', a', rs ++ [s], [], ?_, .inl rfl, .inl rfl⟩
        rw [List.append_nil, frs_snoc]
        rw [List.take_of_length_le (by rw [List.length_append, frm_len]; omega)] at q1
        exact q1
      · refine ⟨T', a', rs, (frm s).take (m - (frs rs).length), ?_, .inr ⟨s, m - (frs rs).length, hs, by omega, rfl⟩, .inr ⟨e, rfl⟩⟩
        rw [List.take_append, List.take_of_length_le m1] at q1
        exact q1
    · exact q2.elim
theorem crash_rep {S : DS} {T : Fo} {a : Nat} {o : Nat} {room : Int} {N : Nat} {rs rn : List (List UInt8)} {t : List UInt8} (h : LW S T a (frs rs ++ t) o room N) (ht : TornB t) (arm : Int) (g : Nat) (hga : g ≠ a) (hgo : ∀ p ∈ [(othN, o)], p.2 ≠ g) (ks : List Int) (hr : ((N + (frs rs ++ t).length + 9 + (frs rn).length : Nat) : Int) ≤ room) (hN : (frs rn).length ≤ N) :
    CrP (repS { S with left := arm } (frs rn) g) ks o room N rs rn := by
  have hu := h.used
  have hlf : LF { S with left := arm } T a (frs rs ++ t) (frs rs ++ t).length [(othN, o)] := h.lf.same rfl rfl rfl rfl
  rcases rep_any (S := { S with left := arm }) (g := g) (X := frs rn) hlf h.dead (by show (usd S.fl S.now : Int) + _ ≤ S.room; rw [h.room]; omega) hga hgo hN h.tmp with ⟨e, hd⟩ | ⟨e, _, hD⟩
  · obtain ⟨q1, q2⟩ := done_crash (S1 := { S with left := arm }) h rfl rfl hd (.inr rfl) ks
    exact ⟨.inl e, q1, [], g, rn, [], by rw [List.append_nil]; exact q2, .inl rfl, .inl rfl⟩
  · obtain ⟨T', a', B', q1, q2⟩ := died_crash h (room' := S.room) rfl h.room hD ks
    refine ⟨.inr e, by have := hD.len; simp at this; omega, ?_⟩
    rcases q2 with ⟨m, m1, m2, rfl⟩ | rfl
    · refine ⟨T', a', rs, t, ?_, ht, .inr ⟨e, rfl⟩⟩
      rw [List.take_of_length_le (by omega)] at q1
      exact q1
    · exact ⟨T', a', rn, [], by rw [List.append_nil]; exact q1, .inl rfl, .inl rfl⟩
theorem crS_left (S : DS) (n : Int) (ks : List Int) : crS { S with left := n } ks = crS S ks := rfl
end Go.Proofs.Ytkaikjlklhcnlaa
