/- What was stored is read again: plain mathematics. -/
import Derived.Test.YthkppipdflmekaaGreatQDDef
import Derived.Test.YthkppipdflmekaaGreatQRSiz
import Derived.Test.YthkppipdflmekaaGreatQInfZ
import Derived.Test.YthkppipdflmekaaGreatQSrcE
namespace Go.Proofs.YthkppipdflmekaaGreat
open Go.RowKit
set_option linter.unusedVariables false
def q3v (b : PBk) : Blk := ⟨b.kind, [], b.ts⟩
theorem qwd : ∀ bs : List PBk, (∀ b ∈ bs, b.Ok) → jkP (bs.map q3v) = bs.flatMap PBk.ts
 | [], _ => rfl
 | b :: bs, h => by
  have ih := qwd bs (fun c hc => h c (by simp [hc]))
  rw [List.flatMap_cons, ← ih]
  unfold jkP
  rw [List.map_cons, List.flatMap_cons]
  congr 1
theorem qm8 {s : ByteArray} {lv : Nat} {bs : List PBk} (hb : BlksOf s lv bs) (hs : s.size ≤ 65536) (most : Nat) :
    qbt (bF8 (qb8 (qb5 bs))) (8 * (qb8 (qb5 bs)).size) most (8 * (qb8 (qb5 bs)).size + 1) 0 0 [] = if most < s.size then .error 2 else .ok (bs.map q3v, (qb5 bs).length) := by
 have hsz := qdt (qb5 bs)
 have hge := qsi bs
 have hbits := q0m (qb5 bs)
 have hsay := qh2 s lv 1000000 (by omega)
 have hbig := qn8 (f := bF8 (qb8 (qb5 bs))) (L := 8 * (qb8 (qb5 bs)).size) (most := 1000000) bs (8 * (qb8 (qb5 bs)).size + 1) 0 0 [] [] (nb s) hb.ne (fun b h => (hb.ok b h).1) rfl (by rw [hb.ts]; exact hsay) hbits (by omega) (by omega)
 rw [Nat.zero_add, List.nil_append] at hbig
 obtain ⟨o, new, h1, h2, h3, h4, h5⟩ := qgy (Nat.le_refl _) _ _ _ _ _ _ (Nat.zero_le _) hbig
 rw [List.nil_append] at h1
 subst h1
 obtain ⟨O', e1, e2⟩ := h2 [] rfl
 have hj := qwd bs (fun b h => (hb.ok b h).1)
 have hj' : jkP (bs.map (fun b => (⟨b.kind, [], b.ts⟩ : Blk))) = toks s lv := by rw [← hb.ts, ← hj]; rfl
 have hmax := qh2 s lv 9223372036854775807 (by omega)
 rw [hj'] at e1
 have ho : o = s.size := by
  have h6 := e1.symm.trans hmax
  have h7 := congrArg (fun x => x.1.length) h6
  simp only [qff] at h7
  omega
 subst ho
 have := h5 most (Nat.zero_le _)
 split
 · exact this.2 (by omega)
 · exact this.1 (by omega)
theorem qo5 {s : ByteArray} {lv : Nat} {bs : List PBk} (hb : BlksOf s lv bs) (hs : s.size ≤ 65536) : Go.Proofs.YthkppipdflmekaaGreat.bs (expF 9223372036854775807 (jkP (bs.map q3v)) []).1 = s := by
 rw [qwd bs (fun b h => (hb.ok b h).1), hb.ts, qh2 s lv 9223372036854775807 (by omega)]
 exact q3n s
theorem qef (f : Nat → Bool) (a : Nat) : ∀ b, qal f (a + b) = qal f a + qal (fun i => f (a + i)) b * 2 ^ a
 | 0 => by simp [qal]
 | b + 1 => by
  rw [show a + (b + 1) = (a + b) + 1 by omega, qal, qef f a b, qal, Nat.add_mul, Nat.pow_add, Nat.mul_assoc, Nat.mul_comm (2 ^ b) (2 ^ a)]
  omega
def four (a b c d : Nat) : Nat → Nat | 0 => a | 1 => b | 2 => c | _ => d
def qdf (f : Nat → Bool) (a : Nat) (l : List UInt8) : Prop := ∀ i, i < 8 * l.length → f (8 * a + i) = sbit l i
theorem qdf.cut {f : Nat → Bool} {a : Nat} {l m : List UInt8} (h : qdf f a (l ++ m)) : qdf f a l ∧ qdf f (a + l.length) m := by
 refine ⟨fun i hi => ?_, fun i hi => ?_⟩
 · rw [h i (by rw [List.length_append]; omega)]
   unfold sbit
   rw [List.getD_eq_getElem?_getD, List.getD_eq_getElem?_getD, List.getElem?_append_left (by omega)]
 · have := h (8 * l.length + i) (by rw [List.length_append]; omega)
   rw [show 8 * (a + l.length) + i = 8 * a + (8 * l.length + i) by omega, this]
   unfold sbit
   rw [show (8 * l.length + i) / 8 = l.length + i / 8 by omega, show (8 * l.length + i) % 8 = i % 8 by omega, List.getD_eq_getElem?_getD, List.getD_eq_getElem?_getD, List.getElem?_append_right (by omega), Nat.add_sub_cancel_left]
theorem qgh {f : Nat → Bool} {a : Nat} {l : List UInt8} (h : qdf f a l) (j : Nat) (hj : j < l.length) : qal (fun i => f (8 * (a + j) + i)) 8 = (l.getD j 0).toNat := by
 have h1 : qal (fun i => f (8 * (a + j) + i)) 8 = qal (fun i => (l.getD j 0).toNat.testBit i) 8 := qaz 8 fun i hi => by
  rw [show 8 * (a + j) + i = 8 * a + (8 * j + i) by omega, h (8 * j + i) (by omega)]
  unfold sbit
  rw [show (8 * j + i) / 8 = j by omega, show (8 * j + i) % 8 = i by omega]
 rw [h1, qfv, Nat.mod_eq_of_lt (UInt8.toNat_lt _)]
theorem qqa {f : Nat → Bool} {a : Nat} {l : List UInt8} (h : qdf f a l) (j : Nat) (hj : j + 1 < l.length) : qal (fun i => f (8 * (a + j) + i)) 16 = (l.getD j 0).toNat + (l.getD (j + 1) 0).toNat * 256 := by
 rw [show (16 : Nat) = 8 + 8 from rfl, qef, qgh h j (by omega)]
 have := qgh h (j + 1) hj
 rw [← this]
 have e : qal (fun i => f (8 * (a + j) + (8 + i))) 8 = qal (fun i => f (8 * (a + (j + 1)) + i)) 8 := qaz 8 fun i _ => by rw [show 8 * (a + j) + (8 + i) = 8 * (a + (j + 1)) + i by omega]
 rw [e]
theorem q3k {f : Nat → Bool} {a : Nat} {l : List UInt8} (h : qdf f a l) : bytF f (8 * a) l.length = l.map UInt8.toNat := by
 unfold bytF
 apply List.ext_getElem?
 intro j
 by_cases hj : j < l.length
 · rw [List.getElem?_map, List.getElem?_range hj, List.getElem?_map, List.getElem?_eq_getElem hj]
   show some _ = some _
   congr 1
   have := qgh h j hj
   rw [List.getD_eq_getElem?_getD, List.getElem?_eq_getElem hj] at this
   refine Eq.trans (qaz 8 fun i _ => ?_) this
   rw [show 8 * a + 8 * j + i = 8 * (a + j) + i by omega]
 · rw [List.getElem?_eq_none (by simp; omega), List.getElem?_eq_none (by simp; omega)]
theorem qf1 (l : List UInt8) (last : Bool) : (sblk l last).length = 5 + l.length := by
 unfold sblk
 rw [List.length_append, List.length_map, List.length_cons, List.length_append, qdz, qdz]
theorem q21 (l : List UInt8) (last : Bool) (h : l.length ≤ 65535) : ((sblk l last).getD 0 0).toNat = qbf last ∧ ((sblk l last).getD 1 0).toNat + ((sblk l last).getD 2 0).toNat * 256 = l.length ∧ ((sblk l last).getD 3 0).toNat + ((sblk l last).getD 4 0).toNat * 256 = 65535 - l.length := by
 have e : sblk l last = UInt8.ofNat (qbf last) :: UInt8.ofNat (l.length / 256 ^ 0 % 256) :: UInt8.ofNat (l.length / 256 ^ 1 % 256) :: UInt8.ofNat ((65535 - l.length) / 256 ^ 0 % 256) :: UInt8.ofNat ((65535 - l.length) / 256 ^ 1 % 256) :: l := rfl
 have hf : qbf last ≤ 1 := by unfold qbf; cases last <;> simp
 rw [e]
 simp only [List.getD_cons_zero, List.getD_cons_succ, UInt8.toNat_ofNat']
 refine ⟨by omega, by omega, by omega⟩
theorem qj7 {f : Nat → Bool} {L most a out : Nat} {l : List UInt8} {last : Bool} (h : qdf f a (sblk l last)) (hl : l.length ≤ 65535) (hL : 8 * (a + 5 + l.length) ≤ L) :
    blkF f L most (8 * a) out = if most < out + l.length then .error 2 else .ok (⟨0, l.map UInt8.toNat, []⟩, qbf last, 8 * (a + 5 + l.length), out + l.length) := by
 have hlen := qf1 l last
 obtain ⟨h0, h1, h3⟩ := q21 l last hl
 have hb0 := qgh h 0 (by omega)
 rw [Nat.add_zero, h0] at hb0
 have hf : qbf last ≤ 1 := by unfold qbf; cases last <;> simp
 have t1 : qal (fun i => f (8 * a + i)) 1 = qbf last := by
  have := qef (fun i => f (8 * a + i)) 1 7
  rw [hb0] at this
  have h2 := qaw (fun i => f (8 * a + i)) 1
  omega
 have t2 : qal (fun i => f (8 * a + 1 + i)) 2 = 0 := by
  have e1 := qef (fun i => f (8 * a + i)) 1 7
  rw [hb0, t1] at e1
  have e2 := qef (fun i => f (8 * a + (1 + i))) 2 5
  have e3 : qal (fun i => f (8 * a + (1 + i))) 2 = qal (fun i => f (8 * a + 1 + i)) 2 := qaz 2 fun i _ => by rw [Nat.add_assoc]
  rw [show 2 + 5 = 7 from rfl] at e2
  rw [e3] at e2
  omega
 have hbody : qdf f (a + 5) l := by
  have e : sblk l last = (qbf last :: (putN l.length 2 ++ putN (65535 - l.length) 2)).map UInt8.ofNat ++ l := rfl
  rw [e] at h
  have := h.cut.2
  rw [List.length_map, List.length_cons, List.length_append, qdz, qdz] at this
  exact this
 have hrow := q3k hbody
 unfold blkF
 rw [show tkF f L (8 * a) 1 = .ok (qbf last) by unfold tkF; rw [if_neg (by omega), t1]]
 simp only
 rw [show tkF f L (8 * a + 1) 2 = .ok 0 by unfold tkF; rw [if_neg (by omega), t2]]
 simp only [if_true]
 unfold stF
 rw [show (8 * a + 3 + 7) / 8 * 8 = 8 * (a + 1) by omega]
 rw [show tkF f L (8 * (a + 1)) 16 = .ok l.length by unfold tkF; rw [if_neg (by omega), qqa h 1 (by omega), h1]]
 simp only
 rw [show 8 * (a + 1) + 16 = 8 * (a + 3) by omega]
 rw [show tkF f L (8 * (a + 3)) 16 = .ok (65535 - l.length) by unfold tkF; rw [if_neg (by omega), qqa h 3 (by omega), h3]]
 simp only
 rw [if_neg (by omega), show 8 * (a + 1) + 32 = 8 * (a + 5) by omega, if_neg (by omega), hrow]
 by_cases hm : most < out + l.length
 · rw [if_pos hm, if_pos hm]
 · rw [if_neg hm, if_neg hm]
   simp only
   rw [show 8 * (a + 5) + 8 * l.length = 8 * (a + 5 + l.length) by omega]
def litT (l : List UInt8) : List Tok := l.map fun b => ⟨b.toNat, 0, 0⟩
theorem qri (b : Blk) (l : List Blk) : jkP (b :: l) = bkP b ++ jkP l := rfl
theorem q1c (l : List UInt8) : bkP ⟨0, l.map UInt8.toNat, []⟩ = litT l := by
 unfold bkP litT
 rw [List.append_nil, List.map_map]; rfl
theorem qmq {f : Nat → Bool} {L most : Nat} : ∀ (k fuel a out : Nat) (acc : List Blk) (l : List UInt8), l.length ≤ k → l.length < fuel → qdf f a (stoF l) → 8 * (a + (stoF l).length) ≤ L →
    (most < out + l.length → qbt f L most fuel (8 * a) out acc = .error 2) ∧ (out + l.length ≤ most → ∃ new, qbt f L most fuel (8 * a) out acc = .ok (acc ++ new, 8 * (a + (stoF l).length)) ∧ jkP new = litT l)
 | k, 0, a, out, acc, l, _, hf, _, _ => absurd hf (Nat.not_lt_zero _)
 | k, fuel + 1, a, out, acc, l, hk, hf, hb, hL => by
  by_cases hm : 65535 < l.length
  · have hlt : (l.take 65535).length = 65535 := by rw [List.length_take]; omega
    have hld : (l.drop 65535).length = l.length - 65535 := List.length_drop
    rw [qfy hm] at hb hL ⊢
    rw [List.length_append, qf1, hlt] at hL ⊢
    obtain ⟨hb1, hb2⟩ := hb.cut
    rw [qf1, hlt] at hb2
    have h1 := qj7 (most := most) (out := out) hb1 (by omega) (by rw [hlt]; omega) (L := L)
    rw [hlt] at h1
    cases k with
    | zero => omega
    | succ k =>
     have ih := fun acc' => qmq (f := f) (L := L) (most := most) k fuel (a + (5 + 65535)) (out + 65535) acc' (l.drop 65535) (by omega) (by omega) hb2 (by omega)
     rw [qbt, h1]
     by_cases hmm : most < out + 65535
     · rw [if_pos hmm]
       exact ⟨fun _ => rfl, fun h => by omega⟩
     · rw [if_neg hmm]
       simp only
       rw [if_neg (show ¬ qbf false = 1 by decide)]
       obtain ⟨i1, i2⟩ := ih (acc ++ [⟨0, (l.take 65535).map UInt8.toNat, []⟩])
       rw [hld] at i1 i2
       rw [show a + 5 + 65535 = a + (5 + 65535) by omega]
       refine ⟨fun h => i1 (by omega), fun h => ?_⟩
       obtain ⟨new, e1, e2⟩ := i2 (by omega)
       refine ⟨⟨0, (l.take 65535).map UInt8.toNat, []⟩ :: new, ?_, ?_⟩
       · rw [e1, List.append_assoc]
         rw [show a + (5 + 65535) + (stoF (l.drop 65535)).length = a + (5 + 65535 + (stoF (l.drop 65535)).length) by omega]; rfl
       · rw [qri, q1c, e2]
         unfold litT
         rw [← List.map_append, List.take_append_drop]
  · rw [qeg hm] at hb hL ⊢
    rw [qf1] at hL ⊢
    have h1 := qj7 (most := most) (out := out) hb (by omega) (by omega) (L := L)
    rw [qbt, h1]
    by_cases hmm : most < out + l.length
    · rw [if_pos hmm]
      exact ⟨fun _ => rfl, fun h => by omega⟩
    · rw [if_neg hmm]
      simp only
      rw [if_pos (show qbf true = 1 by decide)]
      refine ⟨fun h => absurd h hmm, fun _ => ⟨[⟨0, l.map UInt8.toNat, []⟩], ?_, ?_⟩⟩
      · rw [show a + 5 + l.length = a + (5 + l.length) by omega]
      · rw [qri, q1c]
        exact List.append_nil _
theorem qpv (d : ByteArray) : qdf (bF8 d) 0 d.data.toList := fun i _ => by rw [Nat.mul_zero, Nat.zero_add]; rfl
theorem qw2 {s d : ByteArray} {lv : Nat} (h : qmg s lv d) (hs : s.size ≤ 65536) (most : Nat) :
    (most < s.size → qbt (bF8 d) (8 * d.size) most (8 * d.size + 1) 0 0 [] = .error 2) ∧
    (s.size ≤ most → ∃ l q, qbt (bF8 d) (8 * d.size) most (8 * d.size + 1) 0 0 [] = .ok (l, q) ∧ (q + 7) / 8 = d.size ∧ Go.Proofs.YthkppipdflmekaaGreat.bs (expF 9223372036854775807 (jkP l) []).1 = s) := by
 obtain ⟨bs, hb, ⟨rfl, h2⟩ | ⟨h1, h2⟩⟩ := h
 · have hr := qm8 hb hs most
   refine ⟨fun hm => by rw [hr, if_pos hm], fun hm => ⟨_, _, by rw [hr, if_neg (by omega)], (qdt _).symm, qo5 hb hs⟩⟩
 · have hz : d.size = (stoF s.data.toList).length := by rw [← h1]; simp
   have hsl : s.data.toList.length = s.size := by simp
   have hge := quu s.data.toList.length s.data.toList (Nat.le_refl _)
   have hb := qpv d
   rw [h1] at hb
   obtain ⟨i1, i2⟩ := qmq (f := bF8 d) (L := 8 * d.size) (most := most) s.size (8 * d.size + 1) 0 0 [] s.data.toList (by omega) (by omega) hb (by omega)
   simp only [hsl, Nat.mul_zero, Nat.zero_add] at i1 i2
   refine ⟨i1, fun hm => ?_⟩
   obtain ⟨new, e1, e2⟩ := i2 hm
   refine ⟨new, _, by rw [e1, List.nil_append], by omega, ?_⟩
   have ht : litT s.data.toList = (tok0 s).take s.size := by
    rw [List.take_of_length_le (by rw [qcx]; exact Nat.le_refl _)]
    unfold litT tok0 nb
    rw [List.map_map]; rfl
   rw [e2, ht, qh8 s 9223372036854775807 (by omega) s.size (Nat.le_refl _), List.take_of_length_le (by rw [qff]; exact Nat.le_refl _)]
   exact q3n s
end Go.Proofs.YthkppipdflmekaaGreat
