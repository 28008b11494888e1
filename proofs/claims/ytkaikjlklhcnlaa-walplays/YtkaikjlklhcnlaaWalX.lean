/- A log on a disk, and a row of texts beside it. -/
import Derived.Test.YtkaikjlklhcnlaaWalJ
namespace Go.Proofs.Ytkaikjlklhcnlaa
open Go.RowKit Go.Maps
set_option linter.unusedVariables false
set_option linter.unusedSimpArgs false

/-- A disk with a log, a log of it in memory, and a row u of the texts want. -/
structure LX (w : World) (lb d : Nat) (S : DS) (B0 : Nat) (rs : List (List UInt8)) (tn : Bool) (u : Value) (want : List (List UInt8)) : Prop where
  ex : ∃ K gs, LD w lb d S K gs rs tn ∧ (∀ k, k < B0 → K k) ∧ ∀ r, u.ownBlock = some r → K r ∧ r ≠ lb
  sep : ∀ v, w.cell? ⟨lb, 1, none⟩ = some v → ∀ r, u.ownBlock = some r → v.ownBlock ≠ some r
  own : OS w B0 u want
  lb0 : B0 ≤ lb
theorem LX.nil {w : World} {lb d : Nat} {S : DS} {T : Fo} {a : Nat} {B : List UInt8} {o : Nat} {room : Int} {N B0 : Nat} {rs : List (List UInt8)} {tn : Bool} (h : LS w lb d S T a B o room N B0 rs tn) : LX w lb d S B0 rs tn (.slice none 0 0) [] := by
  obtain ⟨⟨K, gs, hld, hK⟩, _, hlb⟩ := h
  exact ⟨⟨K, gs, hld, hK, fun r hr => (by cases hr)⟩, fun v hv r hr => (by cases hr), OS.nil _ _, hlb⟩
theorem LX.ls {w : World} {lb d : Nat} {S : DS} {T : Fo} {a : Nat} {B : List UInt8} {o : Nat} {room : Int} {N B0 : Nat} {rs : List (List UInt8)} {tn : Bool} {u : Value} {want : List (List UInt8)} (h : LX w lb d S B0 rs tn u want) (hw : LW S T a B o room N) : LS w lb d S T a B o room N B0 rs tn := by
  obtain ⟨⟨K, gs, hld, hK, _⟩, _, _, hlb⟩ := h
  exact ⟨⟨K, gs, hld, hK⟩, hw, hlb⟩
theorem LX.below {w w' : World} {lb d : Nat} {S : DS} {B0 : Nat} {rs : List (List UInt8)} {tn : Bool} {u : Value} {want : List (List UInt8)} (h : LX w lb d S B0 rs tn u want) (hb : Below w.heap.size w w') : LX w' lb d S B0 rs tn u want := by
  obtain ⟨⟨K, gs, ⟨hd, v, hg⟩, hK, hr⟩, hs, ho, hlb⟩ := h
  refine ⟨⟨K, gs, ⟨hd.below hb, v, hg.below hb (fun k hk => hk)⟩, hK, hr⟩, fun v' hv' => hs v' ?_, ho.below hb, hlb⟩
  rw [← hv', hb.cell (p := ⟨lb, 1, none⟩) hg.lt]
/-- A row that is new takes the elder one's place. -/
theorem LX.fresh {w w' : World} {lb d : Nat} {S : DS} {B0 : Nat} {rs : List (List UInt8)} {tn : Bool} {u u' : Value} {want want' : List (List UInt8)} (h : LX w lb d S B0 rs tn u want) (hb : Below w.heap.size w w') (ho : OS w' w.heap.size u' want') (hB0 : B0 ≤ w.heap.size) : LX w' lb d S B0 rs tn u' want' := by
  obtain ⟨⟨K, gs, ⟨hd, v, hg⟩, hK, hr⟩, hs, _, hlb⟩ := h
  refine ⟨⟨_, gs, ⟨hd.newAll hb, v, hg.below hb (fun k hk => .inl hk)⟩, fun k hk => .inl (hK k hk), fun r e => ?_⟩, fun v' hv' r e e' => ?_, ho.mono hB0, hlb⟩
  · obtain ⟨h1, h2⟩ := ho.lt r e
    exact ⟨.inr ⟨h1, h2⟩, by have := hg.lt; omega⟩
  · rw [hb.cell (p := ⟨lb, 1, none⟩) hg.lt, hg.cells.2.1] at hv'
    injection hv' with hv'
    subst hv'
    have h1 := (own_lt hg.row e').1
    have h2 := (ho.lt r e).1
    omega
/-- The row grows. -/
theorem LX.grown {w w' : World} {lb d : Nat} {S : DS} {B0 : Nat} {rs : List (List UInt8)} {tn : Bool} {u u' : Value} {want want' : List (List UInt8)} (h : LX w lb d S B0 rs tn u want) (hg : w.grownBy w' u.ownBlock) (ho' : OS w' B0 u' want') (hr' : ∀ r, u'.ownBlock = some r → u.ownBlock = some r ∨ w.heap.size ≤ r ∧ r < w'.heap.size) : LX w' lb d S B0 rs tn u' want' := by
  obtain ⟨⟨K, gs, ⟨hd, v, hgl⟩, hK, hr⟩, hs, ho, hlb⟩ := h
  have hc : w'.heap[lb]? = w.heap[lb]? := hg.block lb hgl.lt (fun e => (hr lb e.symm).2 rfl)
  have hvs := hs v hgl.cells.2.1
  refine ⟨⟨_, gs, ⟨hd.grown hg (fun r e => (hr r e).1), v, ⟨hc.trans hgl.cell, own_kept hgl.row (fun r e => hg.block r (own_lt hgl.row e).1 (fun e' => hvs r e'.symm e)), .inl hgl.kl, fun r e => ⟨.inl (hgl.kr r e).1, (hgl.kr r e).2⟩⟩⟩, fun k hk => .inl (hK k hk), fun r e => ?_⟩, fun v' hv' r e e' => ?_, ho', hlb⟩
  · rcases hr' r e with h1 | h1
    · exact ⟨.inl (hr r h1).1, (hr r h1).2⟩
    · exact ⟨.inr h1, by have := hgl.lt; omega⟩
  · rw [World.cell?_of_block (a := ⟨lb, 1, none⟩) hc, hgl.cells.2.1] at hv'
    injection hv' with hv'
    subst hv'
    rcases hr' r e with h1 | h1
    · exact hvs r h1 e'
    · have := (own_lt hgl.row e').1; omega
/-- Behind a call of the log. -/
theorem LX.after {w w' : World} {lb d : Nat} {S : DS} {B0 : Nat} {rs rn : List (List UInt8)} {tn : Bool} {u : Value} {want : List (List UInt8)} (hso : OS w B0 u want) (hs : ∀ v, w.cell? ⟨lb, 1, none⟩ = some v → ∀ r, u.ownBlock = some r → v.ownBlock ≠ some r) (hlb : B0 ≤ lb) {K : Nat → Prop} {gs : List Nat} (hK : ∀ k, k < B0 → K k) (hr : ∀ r, u.ownBlock = some r → K r ∧ r ≠ lb)
    {f : Nat → Int × DS} {z : Int} (hA : AddP w lb d K gs rs rn tn f z w') : ∃ g, g ∉ gs ∧ z = (f g).1 ∧ LX w' lb d (f g).2 B0 (if z = 0 then rn else rs) (if z = 0 then false else tn) u want ∧ Keeps (fun k => k < B0) w w' := by
  obtain ⟨⟨K', gs', g, hz, hld, hgn, _, hkk⟩, hk, hsep⟩ := hA
  refine ⟨g, hgn, hz, ⟨⟨K', gs', hld, fun k hk' => hkk k (hK k hk'), fun r e => ⟨hkk r (hr r e).1, (hr r e).2⟩⟩, fun v hv r e e' => ?_, own_kept hso (fun r e => hk.block r (hr r e)), hlb⟩, LS.keeps (d := d) hk hK hlb⟩
  rcases hsep v hv with h1 | h1
  · exact hs v h1 r e e'
  · have h2 := h1 r e'
    have h3 := (hso.lt r e).2
    omega
theorem xplay_add {lb d : Nat} {S : DS} {T : Fo} {a : Nat} {o : Nat} {room : Int} {N B0 : Nat} {rs rs' : List (List UInt8)} {tn : Bool} {u : Value} {want : List (List UInt8)} (s : List UInt8) (w : World) (h : LX w lb d S B0 rs' tn u want) (hlw : LW S T a (frs rs) o room N) (h5 : ∀ r ∈ rs, r.length ≤ 5000) (h2 : rs.length < 200) (hs : s.length ≤ 5000)
    (hr : ((N + (frs rs).length + 9 + (s.length + 8) : Nat) : Int) ≤ room) :
    Calls Try.prog 19 #[.pointer (some ⟨lb, 0, none⟩), .string (mkT s)] w fun e w' => e = .returned (.int .i64 0) ∧ (∃ S', LX w' lb d S' B0 (rs ++ [s]) false u want ∧ LW S' T a (frs (rs ++ [s])) o room N) ∧ Keeps (fun k => k < B0) w w' := by
  obtain ⟨⟨K, gs, hld, hK, hrr⟩, hsep, hso, hlb⟩ := h
  obtain ⟨q1, q2⟩ := hlw.rd
  have hp := prs_whole h5 (by omega : rs.length ≤ 200)
  have hu := hlw.used
  have HA := add_ext s w hld hs q1 hlw.lb (by rw [q2, hp]; exact h2) (by rw [q2, hp])
  rw [q2, hp] at HA
  refine HA.mono ?_
  rintro e w4 ⟨z, rfl, hA⟩
  obtain ⟨g, hgn, hz, hx, hk⟩ := LX.after (S := S) hso hsep hlb hK hrr hA
  obtain ⟨e1, hdn⟩ := add_free (g := g) (X := frm s) hlw.lf hlw.dead (by rw [hlw.left]; decide) (by rw [hlw.room, frm_len]; omega)
  rw [e1] at hz
  subst hz
  rw [if_pos rfl, if_pos rfl] at hx
  refine ⟨rfl, ⟨_, hx, ?_⟩, hk⟩
  rw [frs_snoc]
  exact Done.lw hlw hdn (.inl rfl)
theorem xplay_reset {lb d : Nat} {S : DS} {T : Fo} {a : Nat} {B : List UInt8} {o : Nat} {room : Int} {N B0 : Nat} {rs : List (List UInt8)} {tn : Bool} {u : Value} {want : List (List UInt8)} (w : World) (h : LX w lb d S B0 rs tn u want) (hlw : LW S T a B o room N)
    (hr : ((N + B.length + 9 : Nat) : Int) ≤ room) :
    Calls Try.prog 18 #[.pointer (some ⟨lb, 0, none⟩)] w fun e w' => e = .returned (.int .i64 0) ∧ (∃ S' a', LX w' lb d S' B0 [] false u want ∧ LW S' [] a' [] o room N) ∧ Keeps (fun k => k < B0) w w' := by
  obtain ⟨⟨K, gs, hld, hK, hrr⟩, hsep, hso, hlb⟩ := h
  have hu := hlw.used
  refine (reset_any w hld hlw.lb).mono ?_
  rintro e w4 ⟨z, rfl, hA⟩
  obtain ⟨g, hgn, hz, hx, hk⟩ := LX.after (S := S) hso hsep hlb hK hrr hA
  obtain ⟨n1, n2⟩ := hlw.fresh hld.1 hgn
  obtain ⟨e1, hdn⟩ := rep_free (g := g) (X := []) hlw.lf hlw.dead (by rw [hlw.left]; decide) (by rw [hlw.room]; simp; omega) n1 n2
  rw [e1] at hz
  subst hz
  rw [if_pos rfl, if_pos rfl] at hx
  exact ⟨rfl, ⟨_, _, hx, Done.lw hlw hdn (.inr rfl)⟩, hk⟩
theorem xplay_open {lb d : Nat} {S : DS} {T : Fo} {a : Nat} {B : List UInt8} {o : Nat} {room : Int} {N B0 : Nat} {rs rs' : List (List UInt8)} {tn : Bool} {t : List UInt8} {u : Value} {want : List (List UInt8)} (w : World) (h : LX w lb d S B0 rs' tn u want) (hlw : LW S T a B o room N) (hB : B = frs rs ++ t) (h5 : ∀ r ∈ rs, r.length ≤ 5000) (h2 : rs.length ≤ 200) (ht : TornB t) (hB0 : B0 ≤ w.heap.size) :
    Calls Try.prog 21 #[.pointer (some ⟨d, 0, none⟩)] w fun e w' => ∃ lb', e = .returned (.tuple #[.pointer (some ⟨lb', 0, none⟩), .int .i64 0]) ∧ LX w' lb' d S B0 rs (decide (0 < t.length)) u want ∧ Keeps (fun k => k < B0) w w' := by
  obtain ⟨⟨K, gs, hld, hK, hrr⟩, hsep, hso, hlb⟩ := h
  obtain ⟨q1, q2⟩ := hlw.rd
  have hp := prs_torn h5 h2 ht
  have hbig := rdV_big hld.1 logN
  have HO := open_good' w hld.1 q1 (by omega)
  rw [q2, hB, hp] at HO
  refine HO.mono ?_
  rintro e w1 ⟨lb', K', rfl, hld', hkk, hlb', hb, hvb⟩
  have e : decide ((frs rs).length < (frs rs ++ t).length) = decide (0 < t.length) := by rw [List.length_append]; congr 1; simp
  rw [← e]
  refine ⟨lb', rfl, ⟨⟨K', gs, hld', fun k hk => hkk k (hK k hk), fun r e => ⟨hkk r (hrr r e).1, ?_⟩⟩, fun v hv r e e' => ?_, hso.below hb, Nat.le_trans hB0 hlb'⟩, Keeps.of_below hb (fun k hk => Nat.lt_of_lt_of_le hk hB0)⟩
  · have := (hso.lt r e).2; omega
  · have h1 := hvb v hv r e'
    have h2 := (hso.lt r e).2
    omega
end Go.Proofs.Ytkaikjlklhcnlaa
