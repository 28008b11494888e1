/- A log on a disk that doesn't fail: Add, Reset, Open. -/
import Derived.Test.YtkaikjlklhcnlaaAwk15
namespace Go.Proofs.Ytkaikjlklhcnlaa
open Go.RowKit Go.Maps
set_option linter.unusedVariables false
set_option linter.unusedSimpArgs false

theorem LW.lb {S : DS} {T : Fo} {a : Nat} {B : List UInt8} {o : Nat} {room : Int} {N : Nat} (h : LW S T a B o room N) : LB S 1000 := by
  obtain ⟨h1, h2, h3, h4⟩ := h.len
  exact ⟨by omega, by omega⟩
theorem Done.lw {S S' : DS} {T T' : Fo} {a a' : Nat} {B X : List UInt8} {o : Nat} {room : Int} {N : Nat} (h : LW S T a B o room N) (hd : Done S S' T' a' X [(othN, o)]) (hT : T' = T ∨ T' = []) : LW S' T' a' X o room N := by
  refine ⟨hd.lf, ?_, hd.dead, ?_, ?_, fun p hp => ?_⟩
  · rw [hd.rest _ List.mem_cons_self]; exact h.oth
  · rw [hd.left (by rw [h.left]; decide), h.left]
  · rw [hd.room, h.room]
  · rw [hd.tmp p hp]
    rcases hT with rfl | rfl
    · exact h.tmp p hp
    · cases hp
theorem rep_free {S : DS} {T : Fo} {a : Nat} {B X : List UInt8} {R : Fo} {g : Nat} {k : Nat} (h : LF S T a B k R) (hd : S.dead = false) (hl : S.left < 0) (hsp : (usd S.fl S.now : Int) + X.length ≤ S.room) (hga : g ≠ a) (hgR : ∀ p ∈ R, p.2 ≠ g) :
    (repS S X g).1 = 0 ∧ Done S (repS S X g).2 [] g X R := by
  obtain ⟨N, hN⟩ : ∃ N, ∀ p ∈ T, (S.fl p.2).1.length ≤ N := by
    rcases h.tt with rfl | ⟨t, rfl, _⟩
    · exact ⟨0, fun p hp => by cases hp⟩
    · exact ⟨(S.fl t).1.length, fun p hp => by rw [List.mem_singleton] at hp; subst hp; exact Nat.le_refl _⟩
  rcases rep_any (N := max N X.length) h hd hsp hga hgR (Nat.le_max_right _ _) (fun p hp => Nat.le_trans (hN p hp) (Nat.le_max_left _ _)) with h | ⟨_, h, _⟩
  · exact h
  · omega
theorem LS.keeps {w w' : World} {lb d : Nat} {K : Nat → Prop} {B0 : Nat} (hk : Keeps (fun k => K k ∧ k ≠ lb) w w') (hK : ∀ k, k < B0 → K k) (hlb : B0 ≤ lb) : Keeps (fun k => k < B0) w w' := hk.mono (fun k hk => ⟨hK k hk, by omega⟩)
theorem play_add {lb d : Nat} {S : DS} {T : Fo} {a : Nat} {o : Nat} {room : Int} {N B0 : Nat} {rs rs' : List (List UInt8)} {tn : Bool} (s : List UInt8) (w : World) (h : LS w lb d S T a (frs rs) o room N B0 rs' tn) (h5 : ∀ r ∈ rs, r.length ≤ 5000) (h2 : rs.length < 200) (hs : s.length ≤ 5000)
    (hr : ((N + (frs rs).length + 9 + (s.length + 8) : Nat) : Int) ≤ room) :
    Calls Try.prog 19 #[.pointer (some ⟨lb, 0, none⟩), .string (mkT s)] w fun e w' => e = .returned (.int .i64 0) ∧ (∃ S', LS w' lb d S' T a (frs (rs ++ [s])) o room N B0 (rs ++ [s]) false) ∧ Keeps (fun k => k < B0) w w' := by
  obtain ⟨⟨K, gs, hld, hK⟩, hlw, hlb⟩ := h
  obtain ⟨q1, q2⟩ := hlw.rd
  have hp := prs_whole h5 (by omega : rs.length ≤ 200)
  have hu := hlw.used
  have HA := add_ext s w hld hs q1 hlw.lb (by rw [q2, hp]; exact h2) (by rw [q2, hp])
  rw [q2, hp] at HA
  refine HA.mono ?_
  rintro e w4 ⟨z, rfl, ⟨K4, gs4, g4, hz, hld4, _, _, hkk4⟩, hk4, hsp4⟩
  obtain ⟨e1, hdn⟩ := add_free (g := g4) (X := frm s) hlw.lf hlw.dead (by rw [hlw.left]; decide) (by rw [hlw.room, frm_len]; omega)
  rw [e1] at hz
  subst hz
  rw [if_pos rfl, if_pos rfl] at hld4
  refine ⟨rfl, ⟨_, ⟨K4, gs4, hld4, fun k hk => hkk4 k (hK k hk)⟩, ?_, hlb⟩, LS.keeps (d := d) hk4 hK hlb⟩
  rw [frs_snoc]
  exact Done.lw hlw hdn (.inl rfl)
theorem play_reset {lb d : Nat} {S : DS} {T : Fo} {a : Nat} {B : List UInt8} {o : Nat} {room : Int} {N B0 : Nat} {rs : List (List UInt8)} {tn : Bool} (w : World) (h : LS w lb d S T a B o room N B0 rs tn)
    (hr : ((N + B.length + 9 : Nat) : Int) ≤ room) :
    Calls Try.prog 18 #[.pointer (some ⟨lb, 0, none⟩)] w fun e w' => e = .returned (.int .i64 0) ∧ (∃ S' a', LS w' lb d S' [] a' [] o room N B0 [] false) ∧ Keeps (fun k => k < B0) w w' := by
  obtain ⟨⟨K, gs, hld, hK⟩, hlw, hlb⟩ := h
  have hu := hlw.used
  have HA := reset_any w hld hlw.lb
  refine HA.mono ?_
  rintro e w4 ⟨z, rfl, ⟨K4, gs4, g4, hz, hld4, hgn, _, hkk4⟩, hk4, hsp4⟩
  obtain ⟨n1, n2⟩ := hlw.fresh hld.1 hgn
  obtain ⟨e1, hdn⟩ := rep_free (g := g4) (X := []) hlw.lf hlw.dead (by rw [hlw.left]; decide) (by rw [hlw.room]; simp; omega) n1 n2
  rw [e1] at hz
  subst hz
  rw [if_pos rfl, if_pos rfl] at hld4
  exact ⟨rfl, ⟨_, _, ⟨K4, gs4, hld4, fun k hk => hkk4 k (hK k hk)⟩, Done.lw hlw hdn (.inr rfl), hlb⟩, LS.keeps (d := d) hk4 hK hlb⟩
theorem play_open {lb d : Nat} {S : DS} {T : Fo} {a : Nat} {B : List UInt8} {o : Nat} {room : Int} {N B0 : Nat} {rs rs' : List (List UInt8)} {tn : Bool} {t : List UInt8} (w : World) (h : LS w lb d S T a B o room N B0 rs' tn) (hB : B = frs rs ++ t) (h5 : ∀ r ∈ rs, r.length ≤ 5000) (h2 : rs.length ≤ 200) (ht : TornB t) (hB0 : B0 ≤ w.heap.size) :
    Calls Try.prog 21 #[.pointer (some ⟨d, 0, none⟩)] w fun e w' => ∃ lb', e = .returned (.tuple #[.pointer (some ⟨lb', 0, none⟩), .int .i64 0]) ∧ LS w' lb' d S T a B o room N B0 rs (decide (0 < t.length)) ∧ Keeps (fun k => k < B0) w w' := by
  obtain ⟨⟨K, gs, hld, hK⟩, hlw, hlb⟩ := h
  obtain ⟨q1, q2⟩ := hlw.rd
  have hp := prs_torn h5 h2 ht
  have hbig := rdV_big hld.1 logN
  have HO := open_good w hld.1 q1 (by omega)
  rw [q2, hB, hp] at HO
  refine HO.mono ?_
  rintro e w1 ⟨lb', K', rfl, hld', hkk, hlb', hb⟩
  have e : decide ((frs rs).length < (frs rs ++ t).length) = decide (0 < t.length) := by rw [List.length_append]; congr 1; simp
  rw [← e]
  exact ⟨lb', rfl, ⟨⟨K', gs, hld', fun k hk => hkk k (hK k hk)⟩, hlw, Nat.le_trans hB0 hlb'⟩, Keeps.of_below hb (fun k hk => Nat.lt_of_lt_of_le hk hB0)⟩
theorem LS.below {w w' : World} {lb d : Nat} {S : DS} {T : Fo} {a : Nat} {B : List UInt8} {o : Nat} {room : Int} {N B0 : Nat} {rs : List (List UInt8)} {tn : Bool} (h : LS w lb d S T a B o room N B0 rs tn) (hb : Below w.heap.size w w') : LS w' lb d S T a B o room N B0 rs tn := by
  obtain ⟨⟨K, gs, ⟨hd, v, hg⟩, hK⟩, hlw, hlb⟩ := h
  exact ⟨⟨K, gs, ⟨hd.below hb, v, hg.below hb (fun k hk => hk)⟩, hK⟩, hlw, hlb⟩
/-- All that is new is others'. -/
theorem LS.new {w w' : World} {lb d : Nat} {S : DS} {T : Fo} {a : Nat} {B : List UInt8} {o : Nat} {room : Int} {N B0 : Nat} {rs : List (List UInt8)} {tn : Bool} (h : LS w lb d S T a B o room N B0 rs tn) (hb : Below w.heap.size w w') : ∃ K gs, LD w' lb d S K gs rs tn ∧ (∀ k, k < B0 → K k) ∧ ∀ k, w.heap.size ≤ k → k < w'.heap.size → K k := by
  obtain ⟨⟨K, gs, ⟨hd, v, hg⟩, hK⟩, hlw, hlb⟩ := h
  exact ⟨_, gs, ⟨hd.newAll hb, v, hg.below hb (fun k hk => .inl hk)⟩, fun k hk => .inl (hK k hk), fun k h1 h2 => .inr ⟨h1, h2⟩⟩
theorem play_read {lb d : Nat} {S : DS} {T : Fo} {a : Nat} {B : List UInt8} {o : Nat} {room : Int} {N B0 : Nat} {rs : List (List UInt8)} {tn : Bool} (w : World) (h : LS w lb d S T a B o room N B0 rs tn) :
    Calls Try.prog 27 #[.pointer (some ⟨d, 0, none⟩), .string (mkT logN)] w fun e w' => e = .returned (.tuple #[.string (mkT B), .int .i64 0]) ∧ w' = w := by
  obtain ⟨⟨K, gs, hld, _⟩, hlw, _⟩ := h
  have := read_any logN w hld.1 (by decide)
  rw [hlw.rd.1, hlw.rd.2] at this
  exact this
theorem play_list {lb d : Nat} {S : DS} {T : Fo} {a : Nat} {B : List UInt8} {o : Nat} {room : Int} {N B0 : Nat} {rs : List (List UInt8)} {tn : Bool} (w : World) (h : LS w lb d S T a B o room N B0 rs tn) :
    Calls Try.prog 30 #[.pointer (some ⟨d, 0, none⟩)] w fun e w' => ∃ v, e = .returned (.tuple #[v, .int .i64 0]) ∧ OS w' w.heap.size v (nms S.now) ∧ Below w.heap.size w w' := by
  obtain ⟨⟨K, gs, hld, _⟩, hlw, _⟩ := h
  exact list_any w hld.1 hlw.dead (by have := hlw.len; omega)
theorem play_recs {lb d : Nat} {S : DS} {T : Fo} {a : Nat} {B : List UInt8} {o : Nat} {room : Int} {N B0 : Nat} {rs : List (List UInt8)} {tn : Bool} (w : World) (h : LS w lb d S T a B o room N B0 rs tn) (hl : rs.length ≤ 1000) :
    Calls Try.prog 24 #[.pointer (some ⟨lb, 0, none⟩)] w fun e w' => ∃ v', e = .returned v' ∧ OS w' w.heap.size v' rs ∧ Below w.heap.size w w' := by
  obtain ⟨⟨K, gs, ⟨_, v, hg⟩, _⟩, _, _⟩ := h
  exact records_any w hg (by omega)
end Go.Proofs.Ytkaikjlklhcnlaa
