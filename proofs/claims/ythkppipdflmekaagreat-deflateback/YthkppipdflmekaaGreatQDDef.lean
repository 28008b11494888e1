/- deflate's Deflate. -/
import Derived.Test.YthkppipdflmekaaGreatQDPck
import Derived.Test.YthkppipdflmekaaGreatQMatchJ
set_option maxRecDepth 100000
set_option maxHeartbeats 1000000
namespace Go.Proofs.YthkppipdflmekaaGreat
open Go.RowKit
set_option linter.unusedVariables false
set_option linter.unusedSimpArgs false
structure BlksOf (s : ByteArray) (lv : Nat) (bs : List PBk) : Prop where
 ne : bs ≠ []
 ok : ∀ b ∈ bs, b.Ok ∧ qhh b
 ts : bs.flatMap PBk.ts = toks s lv
 len : (qb5 bs).length ≤ 100000000
 is : bs = qn9 (toks s lv)
def qmg (s : ByteArray) (lv : Nat) (d : ByteArray) : Prop := ∃ bs, BlksOf s lv bs ∧ ((d = qb8 (qb5 bs) ∧ d.size ≤ (stoF s.data.toList).length) ∨ (d.data.toList = stoF s.data.toList ∧ d.size < (qb8 (qb5 bs)).size))
def qzc (s : ByteArray) (lv : Nat) : ByteArray := qb8 (qb5 (qn9 (toks s lv)))
def defF (s : ByteArray) (lv : Nat) : ByteArray := if (stoF s.data.toList).length < (qzc s lv).size then ⟨(stoF s.data.toList).toArray⟩ else qzc s lv
theorem qmg.is {s : ByteArray} {lv : Nat} {d : ByteArray} (h : qmg s lv d) : d = defF s lv := by
 obtain ⟨bs, hb, h⟩ := h
 have e : qb8 (qb5 bs) = qzc s lv := by unfold qzc; rw [hb.is]
 rw [e] at h
 unfold defF
 rcases h with ⟨rfl, h2⟩ | ⟨h1, h2⟩
 · rw [if_neg (by omega)]
 · have hd : d = ⟨(stoF s.data.toList).toArray⟩ := by
     rw [← h1]
   have hz : d.size = (stoF s.data.toList).length := by rw [← h1]; simp
   rw [if_pos (by omega), hd]
theorem q1i {w : World} {B : Nat} {v : Value} {ts : List Tok} (h : w.ownsRow B 95 3 v ts.length (tcs ts)) : TRO w v ts := by
 have hlt := h.lt
 rcases h.2 with ⟨rfl, h0⟩ | ⟨g, cap, cur, rfl, _, _, hc, _⟩
 · exact ⟨none, 0, by rw [h0], by omega, fun _ => rfl, fun hne => absurd (List.eq_nil_of_length_eq_zero h0) hne⟩
 · refine ⟨_, cap, rfl, hc, fun e => (by cases e), fun _ => ⟨g, 0, rfl, (hlt g rfl).2, fun i t ht => ?_⟩⟩
   obtain ⟨h1, h2, h3⟩ := qul ts i t ht
   have k1 := World.ownsRow.cells h (g := g) rfl _ _ h1
   have k2 := World.ownsRow.cells h (g := g) rfl _ _ h2
   have k3 := World.ownsRow.cells h (g := g) rfl _ _ h3
   rw [Addr.add_mid] at k1 k2 k3
   exact ⟨k1, by rw [Nat.add_assoc]; exact k2, by rw [Nat.add_assoc]; exact k3⟩
theorem quc (s : ByteArray) (lv : Nat) : TkIn (toks s lv) := fun t ht => qx3 s lv t ht
theorem qpo (s : ByteArray) (lv : Int) (w : World) (h : lv < 0 ∨ 9 < lv) :
    Calls Tryz.prog 5 #[.string s, .int .i64 lv] w fun e w' => e = .returned (.tuple #[.string ⟨#[]⟩, .int .i64 1]) ∧ w' = w := by
 have HT := qsp s lv w h
 clear h
 go_enter Tryz.func5, Tryz.ntmps5
 go_wp2_with fail
 refine HT.mono ?_
 rintro e w1 ⟨rfl, rfl⟩
 go_wp2
 go_ret2
 exact ⟨rfl, rfl⟩
theorem qpp (s : ByteArray) (lv : Nat) (w : World) (h9 : lv ≤ 9) (hs : s.size ≤ 65536) :
    Calls Tryz.prog 5 #[.string s, .int .i64 (lv : Int)] w fun e w' => ∃ d, e = .returned (.tuple #[.string d, .int .i64 0]) ∧ qmg s lv d ∧ Below w.heap.size w w' := by
 have HT := qso s lv w h9 hs
 have hln := qx2 s lv
 have HIN : Hid (TkIn (toks s lv)) := quc s lv
 have HPK : Hid (∀ W v, TRO W v (toks s lv) → Calls Tryz.prog 11 #[v] W fun e w' => ∃ bs : List PBk, e = .returned (.string (qb8 (qb5 bs))) ∧ bs ≠ [] ∧ (∀ b ∈ bs, b.Ok ∧ qhh b) ∧ bs.flatMap PBk.ts = toks s lv ∧ (qb5 bs).length ≤ 100000000 ∧ bs = qn9 (toks s lv) ∧ Below W.heap.size W w') := fun W v h => qzb v (toks s lv) W h (quc s lv) (by omega)
 have HSO : Hid (∀ W, Calls Tryz.prog 12 #[.string s] W fun e w' => (∃ r, e = .returned (.string r) ∧ r.data.toList = stoF s.data.toList) ∧ Below W.heap.size W w') := fun W => qic s W (by omega)
 clear hln
 go_enter Tryz.func5, Tryz.ntmps5
 go_wp2_with fail
 refine HT.mono ?_
 rintro e w1 ⟨v, rfl, hO, hb1⟩
 have hT1 := q1i hO
 obtain ⟨va, vc, rfl, -, -, -⟩ := id hT1
 have HP1 := HPK.out w1 _ hT1
 have HB1 : Hid (Below w.heap.size w w1) := hb1
 have hs1 := hb1.size
 clear hO hb1 HT hT1
 go_wp2_with fail
 refine HP1.mono ?_
 rintro e w2 ⟨bs, rfl, hne, hok, hts, hlen, hfw, hb2⟩
 have HBO : Hid (BlksOf s lv bs) := ⟨hne, hok, hts, hlen, hfw⟩
 have HB2 : Hid (Below w.heap.size w w2) := HB1.out.trans (hb2.mono hs1)
 have hs2 := HB2.out.size
 have hps := qdt (qb5 bs)
 have HPS : Hid ((qb8 (qb5 bs)).size ≤ 100000000) := by unfold Hid; omega
 obtain ⟨p, hp⟩ : ∃ p, p = qb8 (qb5 bs) := ⟨_, rfl⟩
 have HPE : Hid (qb8 (qb5 bs) = p) := hp.symm
 rw [← hp] at HPS ⊢
 clear hne hok hts hlen hfw hb2 HP1 hps hp
 go_wp2_with fail
 refine (HSO.out w2).mono ?_
 rintro e w3 ⟨⟨r, rfl, hr⟩, hb3⟩
 have HR : Hid (r.data.toList = stoF s.data.toList) := hr
 have HRL : Hid (r.size = (stoF s.data.toList).length) := by
  unfold Hid; rw [← hr]; simp
 have HB3 : Hid (Below w.heap.size w w3) := HB2.out.trans (hb3.mono hs2)
 clear hr hb3
 by_cases hlt : r.size < p.size
 · have hlti : (r.size : Int) < (p.size : Int) := by omega
   have HD : Hid (qmg s lv r) := ⟨bs, HBO.out, .inr ⟨HR.out, by rw [HPE.out]; exact hlt⟩⟩
   go_wp2
   go_ret2
   exact ⟨r, rfl, HD.out, HB3.out⟩
 · have hlti : ¬ (r.size : Int) < (p.size : Int) := by omega
   have HD : Hid (qmg s lv p) := ⟨bs, HBO.out, .inl ⟨HPE.out.symm, by rw [← HRL.out]; omega⟩⟩
   go_wp2
   go_ret2
   exact ⟨p, rfl, HD.out, HB3.out⟩
theorem qt0 (s : ByteArray) (lv : Nat) (w : World) (h9 : lv ≤ 9) (hs : s.size ≤ 65536) :
    Calls Tryz.prog 5 #[.string s, .int .i64 (lv : Int)] w fun e w' => e = .returned (.tuple #[.string (defF s lv), .int .i64 0]) ∧ qmg s lv (defF s lv) ∧ Below w.heap.size w w' :=
 (qpp s lv w h9 hs).mono (by
  rintro e w' ⟨d, rfl, h, hb⟩
  rw [← h.is]
  exact ⟨rfl, h, hb⟩)
end Go.Proofs.YthkppipdflmekaaGreat
