/- A disk whose log may be torn (pure), and the log's calls on it. -/
import Derived.Test.YtkaikjlklhcnlaaWalY
import Derived.Test.YtkaikjlklhcnlaaWalQ
namespace Go.Proofs.Ytkaikjlklhcnlaa
open Go.RowKit Go.Maps
set_option linter.unusedVariables false
set_option linter.unusedSimpArgs false

/-- The log has the bytes B, k of them safe; another file; nothing that is being made. -/
structure LV (S : DS) (a : Nat) (B : List UInt8) (k o : Nat) (room : Int) : Prop where
  lf : LF S [] a B k [(othN, o)]
  oth : S.fl o = (othD, 9)
  dead : S.dead = false
  left : S.left = -1
  room : S.room = room
theorem LW.lv {S : DS} {a : Nat} {B : List UInt8} {o : Nat} {room : Int} {N : Nat} (h : LW S [] a B o room N) : LV S a B B.length o room := ⟨h.lf, h.oth, h.dead, h.left, h.room⟩
theorem LV.now {S : DS} {a : Nat} {B : List UInt8} {k o : Nat} {room : Int} (h : LV S a B k o room) : S.now = [(logN, a), (othN, o)] := h.lf.now
theorem LV.rd {S : DS} {a : Nat} {B : List UInt8} {k o : Nat} {room : Int} (h : LV S a B k o room) : rdE S logN = 0 ∧ rdV S logN = B := by
  unfold rdE rdV
  rw [h.dead, h.lf.lkl, if_neg (by decide), if_neg (by simp), if_neg (by decide)]
  exact ⟨rfl, by simp only [h.lf.fa]⟩
theorem LV.rdo {S : DS} {a : Nat} {B : List UInt8} {k o : Nat} {room : Int} (h : LV S a B k o room) : rdE S othN = 0 ∧ rdV S othN = othD := by
  have hk : lk S.now othN = some o := by rw [h.now, lk_cons, if_neg log_oth, lk_cons, if_pos rfl]
  unfold rdE rdV
  rw [h.dead, hk, if_neg (by decide), if_neg (by simp), if_neg (by decide)]
  exact ⟨rfl, by simp only [h.oth]⟩
theorem LV.lens {S : DS} {a : Nat} {B : List UInt8} {k o : Nat} {room : Int} (h : LV S a B k o room) : S.now.length = 2 ∧ S.sure.length = 2 ∧ S.steps.length = 0 := by
  rw [h.lf.now, h.lf.sure, h.lf.steps]; simp
theorem LV.lb {S : DS} {a : Nat} {B : List UInt8} {k o : Nat} {room : Int} (h : LV S a B k o room) : LB S 1000 := by
  obtain ⟨h1, h2, h3⟩ := h.lens; exact ⟨by omega, by omega⟩
theorem LV.used {S : DS} {a : Nat} {B : List UInt8} {k o : Nat} {room : Int} (h : LV S a B k o room) : usd S.fl S.now = B.length + 9 := by
  rw [h.now, usd_cons, usd_cons]
  simp only [h.lf.fa, h.oth]
  simp [usd, othD]
theorem LV.app {S : DS} {a : Nat} {B : List UInt8} {k o : Nat} {room : Int} (h : LV S a B k o room) (X : List UInt8) (g : Nat) (hr : ((B.length + 9 + X.length : Nat) : Int) ≤ room) : apE S logN X = 0 ∧ LV (apS S logN X g) a (B ++ X) k o room := by
  have hu := h.used
  have hoa : o ≠ a := (h.lf.rn _ List.mem_cons_self).2.2.1
  rcases ap_step S h.dead logN X g nameD_log with ⟨_, _, hl⟩ | ⟨l', hl', ⟨hs, _, _⟩ | ⟨_, hk, _, _⟩ | ⟨a', _, hk, e1, e2⟩⟩
  · rw [h.left] at hl; omega
  · rw [hu, h.room] at hs; omega
  · rw [h.lf.lkl] at hk; cases hk
  · rw [h.lf.lkl] at hk
    cases hk
    rw [hl' (by rw [h.left]; decide)] at e2
    refine ⟨e1, ?_⟩
    rw [e2]
    have f1 : updF S.fl a ((S.fl a).1 ++ X, (S.fl a).2) o = S.fl o := updF_other _ _ hoa
    refine ⟨⟨h.lf.now, h.lf.sure, h.lf.steps, by simp only [updF_same, h.lf.fa], by rw [List.length_append]; have := h.lf.ka; omega, fun p hp => ?_, .inl rfl⟩, by simp only [f1]; exact h.oth, h.dead, h.left, h.room⟩
    obtain ⟨r1, r2, r3, r4⟩ := h.lf.rn p hp
    exact ⟨r1, r2, r3, by simp only [updF_other _ _ r3]; exact r4⟩
theorem LV.crash {S : DS} {a : Nat} {B : List UInt8} {k o : Nat} {room : Int} (h : LV S a B k o room) (ks : List Int) : ∃ m, k ≤ m ∧ m ≤ B.length ∧ LV (crS S ks) a (B.take m) m o room := by
  obtain ⟨m, m1, m2, m3, m4, m5, m6, m7, m8⟩ := h.lf.crash ks
  exact ⟨m, m1, m2, m3, by rw [m4 _ List.mem_cons_self]; exact h.oth, m6, m7, by rw [m8, h.room]⟩
/-- A beginning of a frame, but not the whole. -/
def TornP (tr t : List UInt8) : Prop := ∃ j, j < tr.length + 8 ∧ t = (frm tr).take j
theorem TornP.b {tr t : List UInt8} (h : TornP tr t) (hl : tr.length ≤ 5000) : TornB t := by
  obtain ⟨j, h1, h2⟩ := h; exact .inr ⟨tr, j, hl, h1, h2⟩
theorem TornP.take {tr t : List UInt8} (h : TornP tr t) (n : Nat) : TornP tr (t.take n) := by
  obtain ⟨j, h1, rfl⟩ := h
  exact ⟨min n j, by omega, by rw [List.take_take]⟩
theorem TornP.len {tr t : List UInt8} (h : TornP tr t) : t.length ≤ tr.length + 8 := by
  obtain ⟨j, h1, rfl⟩ := h; rw [List.length_take]; omega
theorem LV.tcrash {S : DS} {a : Nat} {k o : Nat} {room : Int} {rs : List (List UInt8)} {t tr : List UInt8} (h : LV S a (frs rs ++ t) k o room) (ht : TornP tr t) (hk : (frs rs).length ≤ k) (ks : List Int) : ∃ t' k', TornP tr t' ∧ (frs rs).length ≤ k' ∧ LV (crS S ks) a (frs rs ++ t') k' o room := by
  obtain ⟨m, m1, m2, m3⟩ := h.crash ks
  refine ⟨t.take (m - (frs rs).length), m, ht.take _, by omega, ?_⟩
  rw [List.take_append, List.take_of_length_le (by omega)] at m3
  exact m3
/-- A record is added. -/
theorem LV.add {S : DS} {a : Nat} {k o : Nat} {room : Int} {rs : List (List UInt8)} {t : List UInt8} (h : LV S a (frs rs ++ t) k o room) (hk : (frs rs).length ≤ k) (s : List UInt8) (g : Nat) (hg : ∀ p ∈ S.now, p.2 ≠ g) (hr : (((frs rs).length + t.length + 9 + ((frs rs).length + (s.length + 8)) : Nat) : Int) ≤ room) {r : Int × DS} (hrr : r = if t = [] then extS S (frm s) g else repS S (frs rs ++ frm s) g) :
    r.1 = 0 ∧ ∃ a', LV r.2 a' (frs (rs ++ [s])) (frs (rs ++ [s])).length o room := by
  have hu := h.used
  rw [List.length_append] at hu
  have hl : S.left < 0 := by rw [h.left]; decide
  have fin : ∀ {S' : DS} {T' : Fo} {a' : Nat} {X : List UInt8}, T' = [] → X = frs (rs ++ [s]) → Done S S' T' a' X [(othN, o)] → LV S' a' (frs (rs ++ [s])) (frs (rs ++ [s])).length o room := by
    rintro S' T' a' X rfl rfl hd
    exact ⟨hd.lf, by rw [hd.rest _ List.mem_cons_self]; exact h.oth, hd.dead, by rw [hd.left hl, h.left], by rw [hd.room, h.room]⟩
  by_cases h0 : t = []
  · rw [if_pos h0] at hrr
    subst hrr h0
    have hlf := h.lf
    have hka := hlf.ka
    rw [List.append_nil] at hlf hka
    obtain rfl : k = (frs rs).length := by omega
    obtain ⟨e1, hd⟩ := add_free (g := g) (X := frm s) hlf h.dead hl (by rw [hu, h.room, frm_len]; simp; omega)
    exact ⟨e1, a, fin rfl (by rw [frs_snoc]) hd⟩
  · rw [if_neg h0] at hrr
    subst hrr
    obtain ⟨e1, hd⟩ := rep_free (g := g) (X := frs rs ++ frm s) h.lf h.dead hl (by rw [hu, h.room, List.length_append, frm_len]; omega) (fun e => hg _ (lk_some_mem h.lf.lkl) e.symm) (fun p hp => hg p (by rw [h.now]; exact List.mem_cons_of_mem _ hp))
    exact ⟨e1, g, fin rfl (by rw [frs_snoc]) hd⟩
theorem hopen2 {lb d : Nat} {S : DS} {H : Nat → Prop} {rs rs' : List (List UInt8)} {tn : Bool} {t : List UInt8} (w : World) (h : LH w lb d S H rs' tn) (q1 : rdE S logN = 0) (q2 : rdV S logN = frs rs ++ t) (h5 : ∀ r ∈ rs, r.length ≤ 5000) (h2 : rs.length ≤ 200) (ht : TornB t) :
    Calls Try.prog 21 #[.pointer (some ⟨d, 0, none⟩)] w fun e w' => ∃ lb', e = .returned (.tuple #[.pointer (some ⟨lb', 0, none⟩), .int .i64 0]) ∧ LH w' lb' d S H rs (decide (0 < t.length)) ∧ w.heap.size ≤ lb' ∧ Below w.heap.size w w' := by
  obtain ⟨K, gs, v, hd, hg, h3⟩ := h
  have hp := prs_torn h5 h2 ht
  have hbig := rdV_big hd logN
  have HO := open_good' w hd q1 (by omega)
  rw [q2, hp] at HO
  refine HO.mono ?_
  rintro e w1 ⟨lb', K', rfl, ⟨hd', v', hg'⟩, hkk, hlb', hb, hvb⟩
  have e : decide ((frs rs).length < (frs rs ++ t).length) = decide (0 < t.length) := by rw [List.length_append]; congr 1; simp
  rw [← e]
  refine ⟨lb', rfl, ⟨K', gs, v', hd', hg', fun k hk => ?_⟩, hlb', hb⟩
  have hk1 := hd.Kb k (h3 k hk).1
  exact ⟨hkk k (h3 k hk).1, by omega, fun e => by have := hvb v' hg'.cells.2.1 k e; omega⟩
theorem hadd2 {lb d : Nat} {S : DS} {H : Nat → Prop} {rs rs' : List (List UInt8)} {tn : Bool} {t : List UInt8} (s : List UInt8) (w : World) (h : LH w lb d S H rs' tn) (q1 : rdE S logN = 0) (q2 : rdV S logN = frs rs ++ t) (hlb : LB S 1000) (h5 : ∀ r ∈ rs, r.length ≤ 5000) (h2 : rs.length < 200) (ht : TornB t) (hs : s.length ≤ 5000) :
    Calls Try.prog 19 #[.pointer (some ⟨lb, 0, none⟩), .string (mkT s)] w fun e w' => ∃ z g S2, e = .returned (.int .i64 z) ∧ (∀ p ∈ S.now, p.2 ≠ g) ∧ (z, S2) = (if t = [] then extS S (frm s) g else repS S (frs rs ++ frm s) g) ∧ LH w' lb d S2 H (if z = 0 then rs ++ [s] else rs') (if z = 0 then false else tn) ∧ Keeps H w w' := by
  obtain ⟨K, gs, v, hd, hg, h3⟩ := h
  have hp := prs_torn h5 (by omega) ht
  have hne : ∀ {g : Nat}, g ∉ gs → ∀ p ∈ S.now, p.2 ≠ g := fun hgn p hp e => hgn (by rw [← e]; exact DK.inNow hd p hp)
  by_cases h0 : t = []
  · subst h0
    have HA := add_ext s w ⟨hd, v, hg⟩ hs q1 hlb (by rw [q2, hp]; exact h2) (by rw [q2, hp]; simp)
    rw [q2, hp] at HA
    refine HA.mono ?_
    rintro e w4 ⟨z, rfl, hA⟩
    obtain ⟨g, hgn, hz, hx, hk⟩ := LH.after hg hd.Kb h3 hA
    exact ⟨z, g, (extS S (frm s) g).2, rfl, hne hgn, by rw [if_pos rfl]; exact Prod.ext hz rfl, hx, hk⟩
  · have hl : (frs rs).length < (frs rs ++ t).length := by
      rw [List.length_append]
      have : t.length ≠ 0 := fun e => h0 (List.length_eq_zero_iff.1 e)
      omega
    have HA := add_rep s w ⟨hd, v, hg⟩ hs q1 hlb (by rw [q2, hp]; exact h2) (by rw [q2, hp]; exact hl)
    rw [q2, hp] at HA
    simp only [List.take_left] at HA
    refine HA.mono ?_
    rintro e w4 ⟨z, rfl, hA⟩
    obtain ⟨g, hgn, hz, hx, hk⟩ := LH.after hg hd.Kb h3 hA
    exact ⟨z, g, (repS S (frs rs ++ frm s) g).2, rfl, hne hgn, by rw [if_neg h0]; exact Prod.ext hz rfl, hx, hk⟩
/-- The whole of it, on a disk that lives. -/
theorem vadd {lb d : Nat} {S : DS} {a k o : Nat} {room : Int} {H : Nat → Prop} {rs rs' : List (List UInt8)} {tn : Bool} {t : List UInt8} (s : List UInt8) (w : World) (h : LH w lb d S H rs' tn) (hv : LV S a (frs rs ++ t) k o room) (hk : (frs rs).length ≤ k) (h5 : ∀ r ∈ rs, r.length ≤ 5000) (h2 : rs.length < 200) (ht : TornB t) (hs : s.length ≤ 5000) (hr : (((frs rs).length + t.length + 9 + ((frs rs).length + (s.length + 8)) : Nat) : Int) ≤ room) :
    Calls Try.prog 19 #[.pointer (some ⟨lb, 0, none⟩), .string (mkT s)] w fun e w' => e = .returned (.int .i64 0) ∧ (∃ S2 a2, LH w' lb d S2 H (rs ++ [s]) false ∧ LV S2 a2 (frs (rs ++ [s])) (frs (rs ++ [s])).length o room) ∧ Keeps H w w' := by
  refine (hadd2 s w h hv.rd.1 hv.rd.2 hv.lb h5 h2 ht hs).mono ?_
  rintro e w' ⟨z, g, S2, rfl, hgn, hz, hl, hk'⟩
  obtain ⟨e1, a2, hv2⟩ := hv.add hk s g hgn hr hz
  simp only at e1
  subst e1
  rw [if_pos rfl, if_pos rfl] at hl
  exact ⟨rfl, ⟨S2, a2, hl, hv2⟩, hk'⟩
theorem vappend {lb d : Nat} {S : DS} {a k o : Nat} {room : Int} {H : Nat → Prop} {rs : List (List UInt8)} {tn : Bool} {B : List UInt8} (X : List UInt8) (w : World) (h : LH w lb d S H rs tn) (hv : LV S a B k o room) (hX : X.length ≤ 100000) (hr : ((B.length + 9 + X.length : Nat) : Int) ≤ room) :
    Calls Try.prog 25 #[.pointer (some ⟨d, 0, none⟩), .string (mkT logN), .string (mkT X)] w fun e w' => e = .returned (.int .i64 0) ∧ (∃ S2, LH w' lb d S2 H rs tn ∧ LV S2 a (B ++ X) k o room) ∧ Keeps H w w' := by
  obtain ⟨K, gs, v, hd, hg, h3⟩ := h
  obtain ⟨l1, l2, l3⟩ := hv.lens
  refine (append_any logN X w hd (by decide) (by omega) (by omega) (by omega)).mono ?_
  rintro e w' ⟨rfl, ⟨g, gs', hd', _, _⟩, hk⟩
  obtain ⟨e1, hv2⟩ := hv.app X g hr
  exact ⟨by rw [e1], ⟨_, ⟨K, gs', v, hd', hg.kept hk (fun k hk => hk), h3⟩, hv2⟩, hk.mono (fun k hk => (h3 k hk).1)⟩
set_option maxRecDepth 100000 in
set_option maxHeartbeats 1000000 in
theorem vothers {lb d : Nat} {S : DS} {a k o : Nat} {room : Int} {H : Nat → Prop} {rs : List (List UInt8)} {tn : Bool} {B : List UInt8} (w : World) (hh : LH w lb d S H rs tn) (hw : LV S a B k o room) :
    Calls Try.prog 20 #[.pointer (some ⟨d, 0, none⟩)] w fun e w' => e = .returned (.bool true) ∧ Below w.heap.size w w' := by
  obtain ⟨K, gs, v, h, _, _⟩ := hh
  have HR0 := read_any othN w h (by decide)
  rw [hw.rdo.1, hw.rdo.2] at HR0
  have HR : Hid (Calls Try.prog _ _ _ _) := HR0
  have HL : Hid (Calls Try.prog _ _ _ _) := list_any w h hw.dead (by have := hw.lens.1; omega)
  have hl : (nms S.now).length = 2 := (nms_len S.now).trans hw.lens.1
  have hq : ((mkT othD).toList == [115, 111, 109, 101, 116, 104, 105, 110, 103]) = true := by rw [mkT_toList]; decide
  clear HR0 hw h
  go_enter Try.func20, Try.ntmps20
  go_wp2_with fail
  refine HR.out.mono ?_
  rintro e w1 ⟨rfl, e1⟩
  have e2 := e1.symm
  subst e2
  clear HR e1
  generalize mkT othD = OD at *
  go_wp2_with fail
  refine HL.out.mono ?_
  rintro e w1 ⟨v, rfl, hO, hb⟩
  obtain ⟨va, vc, rfl⟩ := hO.shape
  have HB : Hid (Below w.heap.size w w1) := hb
  clear hO hb HL
  rw [hl]
  go_wp2
  go_ret
  exact ⟨rfl, HB.out⟩
theorem vread {lb d : Nat} {S : DS} {a k o : Nat} {room : Int} {H : Nat → Prop} {rs : List (List UInt8)} {tn : Bool} {B : List UInt8} (w : World) (h : LH w lb d S H rs tn) (hv : LV S a B k o room) :
    Calls Try.prog 27 #[.pointer (some ⟨d, 0, none⟩), .string (mkT logN)] w fun e w' => e = .returned (.tuple #[.string (mkT B), .int .i64 0]) ∧ w' = w := by
  obtain ⟨K, gs, v, hd, _, _⟩ := h
  have := read_any logN w hd (by decide)
  rw [hv.rd.1, hv.rd.2] at this
  exact this
theorem vtorn {lb d : Nat} {S : DS} {H : Nat → Prop} {rs : List (List UInt8)} {tn : Bool} (w : World) (h : LH w lb d S H rs tn) :
    Calls Try.prog 26 #[.pointer (some ⟨lb, 0, none⟩)] w fun e w' => e = .returned (.bool tn) ∧ w' = w := by
  obtain ⟨K, gs, v, _, hg, _⟩ := h
  exact torn_any w hg
end Go.Proofs.Ytkaikjlklhcnlaa
