/- What was stored is read again: plain mathematics. -/
import Derived.Test.YthkppipdflmekaaGreatQDDef
import Derived.Test.YthkppipdflmekaaGreatQRSiz
import Derived.Test.YthkppipdflmekaaGreatQInfZ
import Derived.Test.YthkppipdflmekaaGreatQSrcE
namespace Go.Proofs.YthkppipdflmekaaGreat
open Go.RowKit
set_option linter.unusedVariables false
def asBlk (b : PBk) : Blk := ⟨b.kind, [], b.ts⟩
theorem jkP_as : ∀ bs : List PBk, (∀ b ∈ bs, b.Ok) → jkP (bs.map asBlk) = bs.flatMap PBk.ts
 | [], _ => rfl
 | b :: bs, h => by
  have ih := jkP_as bs (fun c hc => h c (by simp [hc]))
  rw [List.flatMap_cons, ← ih]
  unfold jkP
  rw [List.map_cons, List.flatMap_cons]
  congr 1
theorem packed_reads {s : ByteArray} {lv : Nat} {bs : List PBk} (hb : BlksOf s lv bs) (hs : s.size ≤ 65536) (most : Nat) :
  blksF (bF8 (packS (bitsB bs))) (8 * (packS (bitsB bs)).size) most (8 * (packS (bitsB bs)).size + 1) 0 0 [] = if most < s.size then .error 2 else .ok (bs.map asBlk, (bitsB bs).length) := by
 have hsz := qcu (bitsB bs)
 have hge := bitsB_ge bs
 have hbits := bF8_pack (bitsB bs)
 have hsay := qgq s lv 1000000 (by omega)
 have hbig := blksF_enc (f := bF8 (packS (bitsB bs))) (L := 8 * (packS (bitsB bs)).size) (most := 1000000) bs (8 * (packS (bitsB bs)).size + 1) 0 0 [] [] (nb s) hb.ne (fun b h => (hb.ok b h).1) rfl (by rw [hb.ts]; exact hsay) hbits (by omega) (by omega)
 rw [Nat.zero_add, List.nil_append] at hbig
 obtain ⟨o, new, h1, h2, h3, h4, h5⟩ := qfq (Nat.le_refl _) _ _ _ _ _ _ (Nat.zero_le _) hbig
 rw [List.nil_append] at h1
 subst h1
 obtain ⟨O', e1, e2⟩ := h2 [] rfl
 have hj := jkP_as bs (fun b h => (hb.ok b h).1)
 have hj' : jkP (bs.map (fun b => (⟨b.kind, [], b.ts⟩ : Blk))) = toks s lv := by rw [← hb.ts, ← hj]; rfl
 have hmax := qgq s lv 9223372036854775807 (by omega)
 rw [hj'] at e1
 have ho : o = s.size := by
  have h6 := e1.symm.trans hmax
  have h7 := congrArg (fun x => x.1.length) h6
  simp only [qed] at h7
  omega
 subst ho
 have := h5 most (Nat.zero_le _)
 split
 · exact this.2 (by omega)
 · exact this.1 (by omega)
theorem packed_text {s : ByteArray} {lv : Nat} {bs : List PBk} (hb : BlksOf s lv bs) (hs : s.size ≤ 65536) : Go.Proofs.YthkppipdflmekaaGreat.bs (expF 9223372036854775807 (jkP (bs.map asBlk)) []).1 = s := by
 rw [jkP_as bs (fun b h => (hb.ok b h).1), hb.ts, qgq s lv 9223372036854775807 (by omega)]
 exact bs_nb s
theorem qde (f : Nat → Bool) (a : Nat) : ∀ b, takeN f (a + b) = takeN f a + takeN (fun i => f (a + i)) b * 2 ^ a
 | 0 => by simp [takeN]
 | b + 1 => by
  rw [show a + (b + 1) = (a + b) + 1 by omega, takeN, qde f a b, takeN, Nat.add_mul, Nat.pow_add, Nat.mul_assoc, Nat.mul_comm (2 ^ b) (2 ^ a)]
  omega
def four (a b c d : Nat) : Nat → Nat | 0 => a | 1 => b | 2 => c | _ => d
def qck (f : Nat → Bool) (a : Nat) (l : List UInt8) : Prop := ∀ i, i < 8 * l.length → f (8 * a + i) = sbit l i
theorem qck.cut {f : Nat → Bool} {a : Nat} {l m : List UInt8} (h : qck f a (l ++ m)) : qck f a l ∧ qck f (a + l.length) m := by
 refine ⟨fun i hi => ?_, fun i hi => ?_⟩
 · rw [h i (by rw [List.length_append]; omega)]
  unfold sbit
  rw [List.getD_eq_getElem?_getD, List.getD_eq_getElem?_getD, List.getElem?_append_left (by omega)]
 · have := h (8 * l.length + i) (by rw [List.length_append]; omega)
  rw [show 8 * (a + l.length) + i = 8 * a + (8 * l.length + i) by omega, this]
  unfold sbit
  rw [show (8 * l.length + i) / 8 = l.length + i / 8 by omega, show (8 * l.length + i) % 8 = i % 8 by omega, List.getD_eq_getElem?_getD, List.getD_eq_getElem?_getD, List.getElem?_append_right (by omega), Nat.add_sub_cancel_left]
theorem qfb {f : Nat → Bool} {a : Nat} {l : List UInt8} (h : qck f a l) (j : Nat) (hj : j < l.length) : takeN (fun i => f (8 * (a + j) + i)) 8 = (l.getD j 0).toNat := by
 have h1 : takeN (fun i => f (8 * (a + j) + i)) 8 = takeN (fun i => (l.getD j 0).toNat.testBit i) 8 := qau 8 fun i hi => by
  rw [show 8 * (a + j) + i = 8 * a + (8 * j + i) by omega, h (8 * j + i) (by omega)]
  unfold sbit
  rw [show (8 * j + i) / 8 = j by omega, show (8 * j + i) % 8 = i by omega]
 rw [h1, qes, Nat.mod_eq_of_lt (UInt8.toNat_lt _)]
theorem two_take {f : Nat → Bool} {a : Nat} {l : List UInt8} (h : qck f a l) (j : Nat) (hj : j + 1 < l.length) : takeN (fun i => f (8 * (a + j) + i)) 16 = (l.getD j 0).toNat + (l.getD (j + 1) 0).toNat * 256 := by
 rw [show (16 : Nat) = 8 + 8 from rfl, qde, qfb h j (by omega)]
 have := qfb h (j + 1) hj
 rw [← this]
 have e : takeN (fun i => f (8 * (a + j) + (8 + i))) 8 = takeN (fun i => f (8 * (a + (j + 1)) + i)) 8 := qau 8 fun i _ => by rw [show 8 * (a + j) + (8 + i) = 8 * (a + (j + 1)) + i by omega]
 rw [e]
theorem byt_row {f : Nat → Bool} {a : Nat} {l : List UInt8} (h : qck f a l) : bytF f (8 * a) l.length = l.map UInt8.toNat := by
 unfold bytF
 apply List.ext_getElem?
 intro j
 by_cases hj : j < l.length
 · rw [List.getElem?_map, List.getElem?_range hj, List.getElem?_map, List.getElem?_eq_getElem hj]
  show some _ = some _
  congr 1
  have := qfb h j hj
  rw [List.getD_eq_getElem?_getD, List.getElem?_eq_getElem hj] at this
  refine Eq.trans (qau 8 fun i _ => ?_) this
  rw [show 8 * a + 8 * j + i = 8 * (a + j) + i by omega]
 · rw [List.getElem?_eq_none (by simp; omega), List.getElem?_eq_none (by simp; omega)]
theorem qew (l : List UInt8) (last : Bool) : (sblk l last).length = 5 + l.length := by
 unfold sblk
 rw [List.length_append, List.length_map, List.length_cons, List.length_append, qc0, qc0]
theorem head_at (l : List UInt8) (last : Bool) (h : l.length ≤ 65535) : ((sblk l last).getD 0 0).toNat = flagN last ∧ ((sblk l last).getD 1 0).toNat + ((sblk l last).getD 2 0).toNat * 256 = l.length ∧ ((sblk l last).getD 3 0).toNat + ((sblk l last).getD 4 0).toNat * 256 = 65535 - l.length := by
 have e : sblk l last = UInt8.ofNat (flagN last) :: UInt8.ofNat (l.length / 256 ^ 0 % 256) :: UInt8.ofNat (l.length / 256 ^ 1 % 256) :: UInt8.ofNat ((65535 - l.length) / 256 ^ 0 % 256) :: UInt8.ofNat ((65535 - l.length) / 256 ^ 1 % 256) :: l := rfl
 have hf : flagN last ≤ 1 := by unfold flagN; cases last <;> simp
 rw [e]
 simp only [List.getD_cons_zero, List.getD_cons_succ, UInt8.toNat_ofNat']
 refine ⟨by omega, by omega, by omega⟩
theorem sblk_reads {f : Nat → Bool} {L most a out : Nat} {l : List UInt8} {last : Bool} (h : qck f a (sblk l last)) (hl : l.length ≤ 65535) (hL : 8 * (a + 5 + l.length) ≤ L) :
  blkF f L most (8 * a) out = if most < out + l.length then .error 2 else .ok (⟨0, l.map UInt8.toNat, []⟩, flagN last, 8 * (a + 5 + l.length), out + l.length) := by
 have hlen := qew l last
 obtain ⟨h0, h1, h3⟩ := head_at l last hl
 have hb0 := qfb h 0 (by omega)
 rw [Nat.add_zero, h0] at hb0
 have hf : flagN last ≤ 1 := by unfold flagN; cases last <;> simp
 have t1 : takeN (fun i => f (8 * a + i)) 1 = flagN last := by
  have := qde (fun i => f (8 * a + i)) 1 7
  rw [hb0] at this
  have h2 := qas (fun i => f (8 * a + i)) 1
  omega
 have t2 : takeN (fun i => f (8 * a + 1 + i)) 2 = 0 := by
  have e1 := qde (fun i => f (8 * a + i)) 1 7
  rw [hb0, t1] at e1
  have e2 := qde (fun i => f (8 * a + (1 + i))) 2 5
  have e3 : takeN (fun i => f (8 * a + (1 + i))) 2 = takeN (fun i => f (8 * a + 1 + i)) 2 := qau 2 fun i _ => by rw [Nat.add_assoc]
  rw [show 2 + 5 = 7 from rfl] at e2
  rw [e3] at e2
  omega
 have hbody : qck f (a + 5) l := by
  have e : sblk l last = (flagN last :: (putN l.length 2 ++ putN (65535 - l.length) 2)).map UInt8.ofNat ++ l := rfl
  rw [e] at h
  have := h.cut.2
  rw [List.length_map, List.length_cons, List.length_append, qc0, qc0] at this
  exact this
 have hrow := byt_row hbody
 unfold blkF
 rw [show tkF f L (8 * a) 1 = .ok (flagN last) by unfold tkF; rw [if_neg (by omega), t1]]
 simp only
 rw [show tkF f L (8 * a + 1) 2 = .ok 0 by unfold tkF; rw [if_neg (by omega), t2]]
 simp only [if_true]
 unfold stF
 rw [show (8 * a + 3 + 7) / 8 * 8 = 8 * (a + 1) by omega]
 rw [show tkF f L (8 * (a + 1)) 16 = .ok l.length by unfold tkF; rw [if_neg (by omega), two_take h 1 (by omega), h1]]
 simp only
 rw [show 8 * (a + 1) + 16 = 8 * (a + 3) by omega]
 rw [show tkF f L (8 * (a + 3)) 16 = .ok (65535 - l.length) by unfold tkF; rw [if_neg (by omega), two_take h 3 (by omega), h3]]
 simp only
 rw [if_neg (by omega), show 8 * (a + 1) + 32 = 8 * (a + 5) by omega, if_neg (by omega), hrow]
 by_cases hm : most < out + l.length
 · rw [if_pos hm, if_pos hm]
 · rw [if_neg hm, if_neg hm]
  simp only
  rw [show 8 * (a + 5) + 8 * l.length = 8 * (a + 5 + l.length) by omega]
def litT (l : List UInt8) : List Tok := l.map fun b => ⟨b.toNat, 0, 0⟩
theorem jkP_cons (b : Blk) (l : List Blk) : jkP (b :: l) = bkP b ++ jkP l := rfl
theorem bk_lit (l : List UInt8) : bkP ⟨0, l.map UInt8.toNat, []⟩ = litT l := by
 unfold bkP litT
 rw [List.append_nil, List.map_map]; rfl
theorem sto_reads {f : Nat → Bool} {L most : Nat} : ∀ (k fuel a out : Nat) (acc : List Blk) (l : List UInt8), l.length ≤ k → l.length < fuel → qck f a (stoF l) → 8 * (a + (stoF l).length) ≤ L →
  (most < out + l.length → blksF f L most fuel (8 * a) out acc = .error 2) ∧ (out + l.length ≤ most → ∃ new, blksF f L most fuel (8 * a) out acc = .ok (acc ++ new, 8 * (a + (stoF l).length)) ∧ jkP new = litT l)
 | k, 0, a, out, acc, l, _, hf, _, _ => absurd hf (Nat.not_lt_zero _)
 | k, fuel + 1, a, out, acc, l, hk, hf, hb, hL => by
  by_cases hm : 65535 < l.length
  · have hlt : (l.take 65535).length = 65535 := by rw [List.length_take]; omega
   have hld : (l.drop 65535).length = l.length - 65535 := List.length_drop
   rw [qeu hm] at hb hL ⊢
   rw [List.length_append, qew, hlt] at hL ⊢
   obtain ⟨hb1, hb2⟩ := hb.cut
   rw [qew, hlt] at hb2
   have h1 := sblk_reads (most := most) (out := out) hb1 (by omega) (by rw [hlt]; omega) (L := L)
   rw [hlt] at h1
   cases k with
   | zero => omega
   | succ k =>
    have ih := fun acc' => sto_reads (f := f) (L := L) (most := most) k fuel (a + (5 + 65535)) (out + 65535) acc' (l.drop 65535) (by omega) (by omega) hb2 (by omega)
    rw [blksF, h1]
    by_cases hmm : most < out + 65535
    · rw [if_pos hmm]
     exact ⟨fun _ => rfl, fun h => by omega⟩
    · rw [if_neg hmm]
     simp only
     rw [if_neg (show ¬ flagN false = 1 by decide)]
     obtain ⟨i1, i2⟩ := ih (acc ++ [⟨0, (l.take 65535).map UInt8.toNat, []⟩])
     rw [hld] at i1 i2
     rw [show a + 5 + 65535 = a + (5 + 65535) by omega]
     refine ⟨fun h => i1 (by omega), fun h => ?_⟩
     obtain ⟨new, e1, e2⟩ := i2 (by omega)
     refine ⟨⟨0, (l.take 65535).map UInt8.toNat, []⟩ :: new, ?_, ?_⟩
     · rw [e1, List.append_assoc]
      rw [show a + (5 + 65535) + (stoF (l.drop 65535)).length = a + (5 + 65535 + (stoF (l.drop 65535)).length) by omega]; rfl
     · rw [jkP_cons, bk_lit, e2]
      unfold litT
      rw [← List.map_append, List.take_append_drop]
  · rw [qdf hm] at hb hL ⊢
   rw [qew] at hL ⊢
   have h1 := sblk_reads (most := most) (out := out) hb (by omega) (by omega) (L := L)
   rw [blksF, h1]
   by_cases hmm : most < out + l.length
   · rw [if_pos hmm]
    exact ⟨fun _ => rfl, fun h => by omega⟩
   · rw [if_neg hmm]
    simp only
    rw [if_pos (show flagN true = 1 by decide)]
    refine ⟨fun h => absurd h hmm, fun _ => ⟨[⟨0, l.map UInt8.toNat, []⟩], ?_, ?_⟩⟩
    · rw [show a + 5 + l.length = a + (5 + l.length) by omega]
    · rw [jkP_cons, bk_lit]
     exact List.append_nil _
theorem bytes_whole (d : ByteArray) : qck (bF8 d) 0 d.data.toList := fun i _ => by rw [Nat.mul_zero, Nat.zero_add]; rfl
theorem def_reads {s d : ByteArray} {lv : Nat} (h : DefOk s lv d) (hs : s.size ≤ 65536) (most : Nat) :
  (most < s.size → blksF (bF8 d) (8 * d.size) most (8 * d.size + 1) 0 0 [] = .error 2) ∧
  (s.size ≤ most → ∃ l q, blksF (bF8 d) (8 * d.size) most (8 * d.size + 1) 0 0 [] = .ok (l, q) ∧ (q + 7) / 8 = d.size ∧ Go.Proofs.YthkppipdflmekaaGreat.bs (expF 9223372036854775807 (jkP l) []).1 = s) := by
 obtain ⟨bs, hb, ⟨rfl, h2⟩ | ⟨h1, h2⟩⟩ := h
 · have hr := packed_reads hb hs most
  refine ⟨fun hm => by rw [hr, if_pos hm], fun hm => ⟨_, _, by rw [hr, if_neg (by omega)], (qcu _).symm, packed_text hb hs⟩⟩
 · have hz : d.size = (stoF s.data.toList).length := by rw [← h1]; simp
  have hsl : s.data.toList.length = s.size := by simp
  have hge := stoF_ge s.data.toList.length s.data.toList (Nat.le_refl _)
  have hb := bytes_whole d
  rw [h1] at hb
  obtain ⟨i1, i2⟩ := sto_reads (f := bF8 d) (L := 8 * d.size) (most := most) s.size (8 * d.size + 1) 0 0 [] s.data.toList (by omega) (by omega) hb (by omega)
  simp only [hsl, Nat.mul_zero, Nat.zero_add] at i1 i2
  refine ⟨i1, fun hm => ?_⟩
  obtain ⟨new, e1, e2⟩ := i2 hm
  refine ⟨new, _, by rw [e1, List.nil_append], by omega, ?_⟩
  have ht : litT s.data.toList = (tok0 s).take s.size := by
   rw [List.take_of_length_le (by rw [qb4]; exact Nat.le_refl _)]
   unfold litT tok0 nb
   rw [List.map_map]; rfl
  rw [e2, ht, qgw s 9223372036854775807 (by omega) s.size (Nat.le_refl _), List.take_of_length_le (by rw [qed]; exact Nat.le_refl _)]
  exact bs_nb s
end Go.Proofs.YthkppipdflmekaaGreat
