/- A log on a disk, and what others hold beside it. -/
import Derived.Test.YtkaikjlklhcnlaaWalJ
import Derived.Test.YtkaikjlklhcnlaaDskP
namespace Go.Proofs.Ytkaikjlklhcnlaa
open Go.RowKit Go.Maps
set_option linter.unusedVariables false
set_option linter.unusedSimpArgs false

/-- A disk, a log of it in memory; others hold the blocks H, none of which is the log's. -/
structure LH (w : World) (lb d : Nat) (S : DS) (H : Nat → Prop) (rs : List (List UInt8)) (tn : Bool) : Prop where
  ex : ∃ K gs v, DK w d S K gs ∧ LG w lb d K rs tn v ∧ ∀ k, H k → K k ∧ k ≠ lb ∧ v.ownBlock ≠ some k
theorem LH.ld {w : World} {lb d : Nat} {S : DS} {H : Nat → Prop} {rs : List (List UInt8)} {tn : Bool} (h : LH w lb d S H rs tn) : ∃ K gs, LD w lb d S K gs rs tn := by
  obtain ⟨K, gs, v, h1, h2, _⟩ := h; exact ⟨K, gs, h1, v, h2⟩
theorem LH.Hb {w : World} {lb d : Nat} {S : DS} {H : Nat → Prop} {rs : List (List UInt8)} {tn : Bool} (h : LH w lb d S H rs tn) : ∀ k, H k → k < w.heap.size := by
  obtain ⟨K, gs, v, h1, h2, h3⟩ := h; exact fun k hk => h1.Kb k (h3 k hk).1
theorem LH.less {w : World} {lb d : Nat} {S : DS} {H H' : Nat → Prop} {rs : List (List UInt8)} {tn : Bool} (h : LH w lb d S H rs tn) (hH : ∀ k, H' k → H k) : LH w lb d S H' rs tn := by
  obtain ⟨K, gs, v, h1, h2, h3⟩ := h; exact ⟨K, gs, v, h1, h2, fun k hk => h3 k (hH k hk)⟩
theorem LH.more {w w' : World} {lb d : Nat} {S : DS} {H : Nat → Prop} {rs : List (List UInt8)} {tn : Bool} (h : LH w lb d S H rs tn) (hb : Below w.heap.size w w') : LH w' lb d S (fun k => H k ∨ w.heap.size ≤ k ∧ k < w'.heap.size) rs tn := by
  obtain ⟨K, gs, v, h1, h2, h3⟩ := h
  refine ⟨_, gs, v, h1.newAll hb, h2.below hb (fun k hk => .inl hk), fun k hk => ?_⟩
  rcases hk with hk | hk
  · obtain ⟨q1, q2, q3⟩ := h3 k hk; exact ⟨.inl q1, q2, q3⟩
  · refine ⟨.inr hk, by have := h2.lt; omega, fun e => ?_⟩
    have := (own_lt h2.row e).1; omega
theorem LH.below {w w' : World} {lb d : Nat} {S : DS} {H : Nat → Prop} {rs : List (List UInt8)} {tn : Bool} (h : LH w lb d S H rs tn) (hb : Below w.heap.size w w') : LH w' lb d S H rs tn := (h.more hb).less (fun k hk => .inl hk)
/-- A row that others hold grows. -/
theorem LH.grown {w w' : World} {lb d : Nat} {S : DS} {H : Nat → Prop} {rs : List (List UInt8)} {tn : Bool} {row : Option Nat} (h : LH w lb d S H rs tn) (hg : w.grownBy w' row) (hr : ∀ r, row = some r → H r) : LH w' lb d S (fun k => H k ∨ w.heap.size ≤ k ∧ k < w'.heap.size) rs tn := by
  obtain ⟨K, gs, v, h1, h2, h3⟩ := h
  refine ⟨_, gs, v, h1.grown hg (fun r e => (h3 r (hr r e)).1), ⟨(hg.block lb h2.lt (fun e => (h3 lb (hr lb e.symm)).2.1 rfl)).trans h2.cell, own_kept h2.row (fun r e => hg.block r (own_lt h2.row e).1 (fun e' => (h3 r (hr r e'.symm)).2.2 e)), .inl h2.kl, fun r e => ⟨.inl (h2.kr r e).1, (h2.kr r e).2⟩⟩, fun k hk => ?_⟩
  rcases hk with hk | hk
  · obtain ⟨q1, q2, q3⟩ := h3 k hk; exact ⟨.inl q1, q2, q3⟩
  · refine ⟨.inr hk, by have := h2.lt; omega, fun e => ?_⟩
    have := (own_lt h2.row e).1; omega
/-- Behind a call of the log. -/
theorem LH.after {w w' : World} {lb d : Nat} {H : Nat → Prop} {rs rn : List (List UInt8)} {tn : Bool} {K : Nat → Prop} {gs : List Nat} {v : Value} (hg : LG w lb d K rs tn v) (hKb : ∀ k, K k → k < w.heap.size) (h3 : ∀ k, H k → K k ∧ k ≠ lb ∧ v.ownBlock ≠ some k)
    {f : Nat → Int × DS} {z : Int} (hA : AddP w lb d K gs rs rn tn f z w') : ∃ g, g ∉ gs ∧ z = (f g).1 ∧ LH w' lb d (f g).2 H (if z = 0 then rn else rs) (if z = 0 then false else tn) ∧ Keeps H w w' := by
  obtain ⟨⟨K', gs', g, hz, ⟨hd', v', hg'⟩, hgn, _, hkk⟩, hk, hsep⟩ := hA
  refine ⟨g, hgn, hz, ⟨K', gs', v', hd', hg', fun k hk' => ?_⟩, hk.mono (fun k hk' => ⟨(h3 k hk').1, (h3 k hk').2.1⟩)⟩
  obtain ⟨q1, q2, q3⟩ := h3 k hk'
  refine ⟨hkk k q1, q2, fun e => ?_⟩
  rcases hsep v' hg'.cells.2.1 with h1 | h1
  · rw [hg.cells.2.1] at h1; injection h1 with h1; subst h1; exact q3 e
  · have h2 := h1 k e; have h4 := hKb k q1; omega
/-- A row that others hold. -/
def RH (w : World) (H : Nat → Prop) (u : Value) (l : List (List UInt8)) : Prop := OS w 0 u l ∧ ∀ r, u.ownBlock = some r → H r
theorem RH.keeps {w w' : World} {H : Nat → Prop} {u : Value} {l : List (List UInt8)} (h : RH w H u l) (hk : Keeps H w w') : RH w' H u l := ⟨own_kept h.1 (fun r e => hk.block r (h.2 r e)), h.2⟩
theorem RH.below {w w' : World} {H : Nat → Prop} {u : Value} {l : List (List UInt8)} (h : RH w H u l) (hb : Below w.heap.size w w') : RH w' H u l := ⟨h.1.below hb, h.2⟩
theorem RH.up {w : World} {H H' : Nat → Prop} {u : Value} {l : List (List UInt8)} (h : RH w H u l) (hH : ∀ k, H k → H' k) : RH w H' u l := ⟨h.1, fun r e => hH r (h.2 r e)⟩
theorem harm {lb d : Nat} {S : DS} {H : Nat → Prop} {rs : List (List UInt8)} {tn : Bool} (n : Int) (w : World) (h : LH w lb d S H rs tn) (h0 : -9223372036854775808 ≤ n) (h1 : n ≤ 9223372036854775807) :
    Calls Try.prog 22 #[.pointer (some ⟨d, 0, none⟩), .int .i64 n] w fun e w' => e = .returned (.tuple #[]) ∧ LH w' lb d { S with left := n } H rs tn ∧ Keeps H w w' := by
  obtain ⟨K, gs, v, hd, hg, h3⟩ := h
  refine (arm_any w hd n h0 h1).mono ?_
  rintro e w' ⟨rfl, hd', hk⟩
  exact ⟨rfl, ⟨K, gs, v, hd', hg.kept hk (fun k hk => hk), h3⟩, hk.mono (fun k hk => (h3 k hk).1)⟩
theorem hcrash {lb d : Nat} {S : DS} {H : Nat → Prop} {rs : List (List UInt8)} {tn : Bool} (ks : List Int) (u : Value) (w : World) (h : LH w lb d S H rs tn) (hv : KSl w u ks) (hvH : 0 < ks.length → ∀ r, u.ownBlock = some r → H r) (hl : S.sure.length + S.steps.length ≤ 1000000) :
    Calls Try.prog 23 #[.pointer (some ⟨d, 0, none⟩), u] w fun e w' => e = .returned (.tuple #[]) ∧ LH w' lb d (crS S ks) H rs tn ∧ Keeps H w w' := by
  obtain ⟨K, gs, v, hd, hg, h3⟩ := h
  refine (crash_any ks u w hd hv (fun h r e => (h3 r (hvH h r e)).1) hl).mono ?_
  rintro e w' ⟨rfl, hd', hk⟩
  exact ⟨rfl, ⟨K, gs, v, hd', hg.kept hk (fun k hk => hk), h3⟩, hk.mono (fun k hk => (h3 k hk).1)⟩
theorem hopen {lb d : Nat} {S : DS} {T : Fo} {a : Nat} {o : Nat} {room : Int} {N : Nat} {H : Nat → Prop} {rs rs' : List (List UInt8)} {tn : Bool} {t : List UInt8} (w : World) (h : LH w lb d S H rs' tn) (hlw : LW S T a (frs rs ++ t) o room N) (h5 : ∀ r ∈ rs, r.length ≤ 5000) (h2 : rs.length ≤ 200) (ht : TornB t) :
    Calls Try.prog 21 #[.pointer (some ⟨d, 0, none⟩)] w fun e w' => ∃ lb', e = .returned (.tuple #[.pointer (some ⟨lb', 0, none⟩), .int .i64 0]) ∧ LH w' lb' d S H rs (decide (0 < t.length)) ∧ w.heap.size ≤ lb' ∧ Below w.heap.size w w' := by
  obtain ⟨K, gs, v, hd, hg, h3⟩ := h
  obtain ⟨q1, q2⟩ := hlw.rd
  have hp := prs_torn h5 h2 ht
  have hbig := rdV_big hd logN
  have HO := open_good' w hd q1 (by omega)
  rw [q2, hp] at HO
  refine HO.mono ?_
  rintro e w1 ⟨lb', K', rfl, ⟨hd', v', hg'⟩, hkk, hlb', hb, hvb⟩
  have e : decide ((frs rs).length < (frs rs ++ t).length) = decide (0 < t.length) := by rw [List.length_append]; congr 1; simp
  rw [← e]
  refine ⟨lb', rfl, ⟨K', gs, v', hd', hg', fun k hk => ?_⟩, hlb', hb⟩
  have hk1 := hd.Kb k (h3 k hk).1
  exact ⟨hkk k (h3 k hk).1, by omega, fun e => by have := hvb v' hg'.cells.2.1 k e; omega⟩
theorem hsame {lb d : Nat} {S : DS} {H : Nat → Prop} {rs want : List (List UInt8)} {tn : Bool} {u : Value} (w : World) (h : LH w lb d S H rs tn) (hu : RH w H u want) (hl : rs.length ≤ 1000) (hw : want.length ≤ 1000) :
    Calls Try.prog 17 #[.pointer (some ⟨lb, 0, none⟩), u] w fun e w' => e = .returned (.bool (decide (rs = want))) ∧ Below w.heap.size w w' := by
  obtain ⟨K, gs, v, hd, hg, h3⟩ := h
  exact same15_any u want w hg hu.1.rs (by omega) (by omega)
theorem hothers {lb d : Nat} {S : DS} {T : Fo} {a : Nat} {B : List UInt8} {o : Nat} {room : Int} {N : Nat} {H : Nat → Prop} {rs : List (List UInt8)} {tn : Bool} (w : World) (h : LH w lb d S H rs tn) (hlw : LW S T a B o room N) :
    Calls Try.prog 20 #[.pointer (some ⟨d, 0, none⟩)] w fun e w' => e = .returned (.bool true) ∧ Below w.heap.size w w' := by
  obtain ⟨K, gs, v, hd, hg, h3⟩ := h
  exact others_any w hd hlw
theorem hrecs {lb d : Nat} {S : DS} {H : Nat → Prop} {rs : List (List UInt8)} {tn : Bool} (w : World) (h : LH w lb d S H rs tn) (hl : rs.length ≤ 1000) :
    Calls Try.prog 24 #[.pointer (some ⟨lb, 0, none⟩)] w fun e w' => ∃ v', e = .returned v' ∧ OS w' w.heap.size v' rs ∧ Below w.heap.size w w' := by
  obtain ⟨K, gs, v, hd, hg, h3⟩ := h
  exact records_any w hg (by omega)
theorem LS.lh {w : World} {lb d : Nat} {S : DS} {T : Fo} {a : Nat} {B : List UInt8} {o : Nat} {room : Int} {N B0 : Nat} {tn : Bool} (h : LS w lb d S T a B o room N B0 [] tn) (hr : ∀ v, w.cell? ⟨lb, 1, none⟩ = some v → ∀ r, v.ownBlock = some r → B0 ≤ r) : LH w lb d S (fun k => k < B0) [] tn := by
  obtain ⟨⟨K, gs, ⟨hd, v, hg⟩, hK⟩, _, hlb⟩ := h
  exact ⟨K, gs, v, hd, hg, fun k hk => ⟨hK k hk, by omega, fun e => by have := hr v hg.cells.2.1 k e; omega⟩⟩
theorem LW.fresh' {S : DS} {T : Fo} {a : Nat} {B : List UInt8} {o : Nat} {room : Int} {N : Nat} (h : LW S T a B o room N) {gs : List Nat} (hd : ∀ p ∈ S.now, p.2 ∈ gs) {g : Nat} (hg : g ∉ gs) : g ≠ a ∧ ∀ p ∈ [(othN, o)], p.2 ≠ g := by
  refine ⟨fun e => hg ?_, fun p hp e => hg ?_⟩
  · rw [e]; exact hd _ (lk_some_mem h.lf.lkl)
  · rw [List.mem_singleton] at hp; subst hp
    rw [← e]; exact hd _ (lk_some_mem h.lko)
theorem DK.inNow {w : World} {d : Nat} {S : DS} {K : Nat → Prop} {gs : List Nat} (h : DK w d S K gs) : ∀ p ∈ S.now, p.2 ∈ gs := by
  obtain ⟨_, _, _, _, h⟩ := h; exact fun p hp => (h.inN p hp).1
/-- An armed disk's log. -/
theorem rd_left (S : DS) (n : Int) (x : List UInt8) : rdE { S with left := n } x = rdE S x ∧ rdV { S with left := n } x = rdV S x := ⟨rfl, rfl⟩
theorem LB_left {S : DS} {m : Nat} (h : LB S m) (n : Int) : LB { S with left := n } m := h
theorem hadd {lb d : Nat} {S : DS} {T : Fo} {a : Nat} {o : Nat} {room : Int} {N : Nat} {H : Nat → Prop} {rs rs' : List (List UInt8)} {tn : Bool} {t : List UInt8} (arm : Int) (s : List UInt8) (w : World) (h : LH w lb d { S with left := arm } H rs' tn) (hlw : LW S T a (frs rs ++ t) o room N) (h5 : ∀ r ∈ rs, r.length ≤ 5000) (h2 : rs.length < 200) (ht : TornB t) (hs : s.length ≤ 5000) :
    Calls Try.prog 19 #[.pointer (some ⟨lb, 0, none⟩), .string (mkT s)] w fun e w' => ∃ z g gs, e = .returned (.int .i64 z) ∧ g ≠ a ∧ (∀ p ∈ [(othN, o)], p.2 ≠ g) ∧ (z, gs) = (if t = [] then extS { S with left := arm } (frm s) g else repS { S with left := arm } (frs rs ++ frm s) g) ∧ LH w' lb d gs H (if z = 0 then rs ++ [s] else rs') (if z = 0 then false else tn) ∧ Keeps H w w' := by
  obtain ⟨K, gs, v, hd, hg, h3⟩ := h
  obtain ⟨q1, q2⟩ := hlw.rd
  have hp := prs_torn h5 (by omega) ht
  by_cases h0 : t = []
  · subst h0
    have HA := add_ext s w ⟨hd, v, hg⟩ hs q1 hlw.lb (by rw [(rd_left S arm logN).2, q2, hp]; exact h2) (by rw [(rd_left S arm logN).2, q2, hp]; simp)
    rw [(rd_left S arm logN).2, q2, hp] at HA
    refine HA.mono ?_
    rintro e w4 ⟨z, rfl, hA⟩
    obtain ⟨g, hgn, hz, hx, hk⟩ := LH.after hg hd.Kb h3 hA
    obtain ⟨n1, n2⟩ := LW.fresh' (S := S) hlw (fun p hp => DK.inNow hd p hp) hgn
    exact ⟨z, g, (extS { S with left := arm } (frm s) g).2, rfl, n1, n2, by rw [if_pos rfl]; exact Prod.ext hz rfl, hx, hk⟩
  · have hl : (frs rs).length < (frs rs ++ t).length := by
      rw [List.length_append]
      have : t.length ≠ 0 := fun e => h0 (List.length_eq_zero_iff.1 e)
      omega
    have HA := add_rep s w ⟨hd, v, hg⟩ hs q1 hlw.lb (by rw [(rd_left S arm logN).2, q2, hp]; exact h2) (by rw [(rd_left S arm logN).2, q2, hp]; exact hl)
    rw [(rd_left S arm logN).2, q2, hp] at HA
    simp only [List.take_left] at HA
    refine HA.mono ?_
    rintro e w4 ⟨z, rfl, hA⟩
    obtain ⟨g, hgn, hz, hx, hk⟩ := LH.after hg hd.Kb h3 hA
    obtain ⟨n1, n2⟩ := LW.fresh' (S := S) hlw (fun p hp => DK.inNow hd p hp) hgn
    exact ⟨z, g, (repS { S with left := arm } (frs rs ++ frm s) g).2, rfl, n1, n2, by rw [if_neg h0]; exact Prod.ext hz rfl, hx, hk⟩
theorem hreset {lb d : Nat} {S : DS} {T : Fo} {a : Nat} {B : List UInt8} {o : Nat} {room : Int} {N : Nat} {H : Nat → Prop} {rs' : List (List UInt8)} {tn : Bool} (arm : Int) (w : World) (h : LH w lb d { S with left := arm } H rs' tn) (hlw : LW S T a B o room N) :
    Calls Try.prog 18 #[.pointer (some ⟨lb, 0, none⟩)] w fun e w' => ∃ z g gs, e = .returned (.int .i64 z) ∧ g ≠ a ∧ (∀ p ∈ [(othN, o)], p.2 ≠ g) ∧ (z, gs) = repS { S with left := arm } [] g ∧ LH w' lb d gs H (if z = 0 then [] else rs') (if z = 0 then false else tn) ∧ Keeps H w w' := by
  obtain ⟨K, gs, v, hd, hg, h3⟩ := h
  refine (reset_any w ⟨hd, v, hg⟩ (LB_left hlw.lb arm)).mono ?_
  rintro e w4 ⟨z, rfl, hA⟩
  obtain ⟨g, hgn, hz, hx, hk⟩ := LH.after hg hd.Kb h3 hA
  obtain ⟨n1, n2⟩ := LW.fresh' (S := S) hlw (fun p hp => DK.inNow hd p hp) hgn
  exact ⟨z, g, (repS { S with left := arm } [] g).2, rfl, n1, n2, Prod.ext hz rfl, hx, hk⟩
end Go.Proofs.Ytkaikjlklhcnlaa
