/- What was packed is read again. Bits taken in two parts: plain mathematics, and four Sources side by side. What was stored is read again: plain mathematics. -/
import Derived.Test.YtbknflckdbfogaaGreatQDDef
import Derived.Test.YtbknflckdbfogaaGreatQInfI
import Derived.Test.YtbknflckdbfogaaGreatQInfZ
import Derived.Test.YtbknflckdbfogaaGreatQSrcE
namespace Go.Proofs.YtbknflckdbfogaaGreat
open Go.RowKit
set_option linter.unusedVariables false

def asBlk (b : PBk) : Blk := ⟨b.kind, [], b.ts⟩
theorem jkP_as : ∀ bs : List PBk, (∀ b ∈ bs, b.Ok) → jkP (bs.map asBlk) = bs.flatMap PBk.ts
  | [], _ => rfl
  | b :: bs, h => by
    have ih := jkP_as bs (fun c hc => h c (by simp [hc]))
    rw [List.flatMap_cons, ← ih]
    unfold jkP
    rw [List.map_cons, List.flatMap_cons]
    congr 1
theorem packed_reads {s : ByteArray} {lv : Nat} {bs : List PBk} (hb : BlksOf s lv bs) (hs : s.size ≤ 65536) (most : Nat) :
    blksF (bF8 (packS (bitsB bs))) (8 * (packS (bitsB bs)).size) most (8 * (packS (bitsB bs)).size + 1) 0 0 [] = if most < s.size then .error 2 else .ok (bs.map asBlk, (bitsB bs).length) := by
  have hsz := packS_size (bitsB bs)
  have hge := bitsB_ge bs
  have hbits := bF8_pack (bitsB bs)
  have hsay := toks_says s lv 1000000 (by omega)
  have hbig := blksF_enc (f := bF8 (packS (bitsB bs))) (L := 8 * (packS (bitsB bs)).size) (most := 1000000) bs (8 * (packS (bitsB bs)).size + 1) 0 0 [] [] (nb s) hb.ne (fun b h => (hb.ok b h).1) rfl (by rw [hb.ts]; exact hsay) hbits (by omega) (by omega)
  rw [Nat.zero_add, List.nil_append] at hbig
  obtain ⟨o, new, h1, h2, h3, h4, h5⟩ := blksF_says (Nat.le_refl _) _ _ _ _ _ _ (Nat.zero_le _) hbig
  rw [List.nil_append] at h1
  subst h1
  obtain ⟨O', e1, e2⟩ := h2 [] rfl
  have hj := jkP_as bs (fun b h => (hb.ok b h).1)
  have hj' : jkP (bs.map (fun b => (⟨b.kind, [], b.ts⟩ : Blk))) = toks s lv := by rw [← hb.ts, ← hj]; rfl
  have hmax := toks_says s lv 9223372036854775807 (by omega)
  rw [hj'] at e1
  have ho : o = s.size := by
    have h6 := e1.symm.trans hmax
    have h7 := congrArg (fun x => x.1.length) h6
    simp only [nb_len] at h7
    omega
  subst ho
  have := h5 most (Nat.zero_le _)
  split
  · exact this.2 (by omega)
  · exact this.1 (by omega)
/-- The text that a packed stream says. -/
theorem packed_text {s : ByteArray} {lv : Nat} {bs : List PBk} (hb : BlksOf s lv bs) (hs : s.size ≤ 65536) : Go.Proofs.YtbknflckdbfogaaGreat.bs (expF 9223372036854775807 (jkP (bs.map asBlk)) []).1 = s := by
  rw [jkP_as bs (fun b h => (hb.ok b h).1), hb.ts, toks_says s lv 9223372036854775807 (by omega)]
  exact bs_nb s
end Go.Proofs.YtbknflckdbfogaaGreat
namespace Go.Proofs.YtbknflckdbfogaaGreat
open Go.RowKit
set_option linter.unusedVariables false
theorem takeN_add (f : Nat → Bool) (a : Nat) : ∀ b, takeN f (a + b) = takeN f a + takeN (fun i => f (a + i)) b * 2 ^ a
  | 0 => by simp [takeN]
  | b + 1 => by
    rw [show a + (b + 1) = (a + b) + 1 by omega, takeN, takeN_add f a b, takeN, Nat.add_mul, Nat.pow_add, Nat.mul_assoc, Nat.mul_comm (2 ^ b) (2 ^ a)]
    omega
theorem turnN_add (f : Nat → Bool) (a : Nat) : ∀ b, turnN f (a + b) = turnN f a * 2 ^ b + turnN (fun i => f (a + i)) b
  | 0 => by simp [turnN]
  | b + 1 => by
    rw [show a + (b + 1) = (a + b) + 1 by omega, turnN, turnN_add f a b, turnN, Nat.pow_succ]
    have : turnN f a * (2 ^ b * 2) = 2 * (turnN f a * 2 ^ b) := by rw [← Nat.mul_assoc, Nat.mul_comm]
    omega
theorem takeN_two (f : Nat → Bool) (a b : Nat) : takeN f a ||| takeN (fun i => f (a + i)) b * 2 ^ a = takeN f (a + b) := by
  rw [takeN_add, Nat.mul_comm, Nat.or_comm, ← Nat.two_pow_add_eq_or_of_lt (takeN_lt f a), Nat.add_comm]
theorem turnN_two (f : Nat → Bool) (a b : Nat) : turnN f a * 2 ^ b ||| turnN (fun i => f (a + i)) b = turnN f (a + b) := by
  rw [turnN_add, Nat.mul_comm, ← Nat.two_pow_add_eq_or_of_lt (turnN_lt _ b)]
theorem near_of (n : Nat) (h : n ≤ 32) : near (n : Int) 32 = n := by unfold near; omega
theorem two_low (f : Nat → Bool) (a b : Nat) (h : a + b ≤ 32) : ((takeN f (a + b) : Int) == bits .or .u64 (takeN f a : Int) ((takeN (fun i => f (a + i)) b : Int) * 2 ^ a % 18446744073709551616)) = true := by
  have h1 := takeN_lt32 f a (by omega)
  have h2 : takeN (fun i => f (a + i)) b * 2 ^ a < 18446744073709551616 := by
    have h3 := takeN_lt (fun i => f (a + i)) b
    have : takeN (fun i => f (a + i)) b * 2 ^ a < 2 ^ b * 2 ^ a := Nat.mul_lt_mul_of_pos_right h3 (Nat.two_pow_pos _)
    rw [← Nat.pow_add] at this
    exact Nat.lt_of_lt_of_le this (Nat.pow_le_pow_right (n := 2) (i := b + a) (j := 64) (by decide) (by omega))
  have e : (takeN (fun i => f (a + i)) b : Int) * 2 ^ a % 18446744073709551616 = ((takeN (fun i => f (a + i)) b * 2 ^ a : Nat) : Int) := by
    have e1 : ((takeN (fun i => f (a + i)) b * 2 ^ a : Nat) : Int) = (takeN (fun i => f (a + i)) b : Int) * 2 ^ a := by simp
    rw [← e1]
    generalize takeN (fun i => f (a + i)) b * 2 ^ a = q at *
    omega
  rw [e, u64_or_nat _ _ (by omega) h2, takeN_two]
  simp
theorem two_high (f : Nat → Bool) (a b : Nat) (h : a + b ≤ 32) : ((turnN f (a + b) : Int) == bits .or .u64 ((turnN f a : Int) * 2 ^ b % 18446744073709551616) (turnN (fun i => f (a + i)) b : Int)) = true := by
  have h1 := turnN_lt32 (fun i => f (a + i)) b (by omega)
  have h2 : turnN f a * 2 ^ b < 18446744073709551616 := by
    have h3 := turnN_lt f a
    have : turnN f a * 2 ^ b < 2 ^ a * 2 ^ b := Nat.mul_lt_mul_of_pos_right h3 (Nat.two_pow_pos _)
    rw [← Nat.pow_add] at this
    exact Nat.lt_of_lt_of_le this (Nat.pow_le_pow_right (n := 2) (i := a + b) (j := 64) (by decide) (by omega))
  have e : (turnN f a : Int) * 2 ^ b % 18446744073709551616 = ((turnN f a * 2 ^ b : Nat) : Int) := by
    have e1 : ((turnN f a * 2 ^ b : Nat) : Int) = (turnN f a : Int) * 2 ^ b := by simp
    rw [← e1]
    generalize turnN f a * 2 ^ b = q at *
    omega
  rw [e, u64_or_nat _ _ h2 (by omega), turnN_two]
  simp
/-- Four numbers as a function. -/
def four (a b c d : Nat) : Nat → Nat | 0 => a | 1 => b | 2 => c | _ => d
/-- Four Sources of one text side by side. -/
def Srcs (w : World) (g : Nat → Nat) (s : ByteArray) (p : Nat → Nat) : Prop := ∀ j, j < 4 → SrcAt w (g j) s (p j)
def Inj4 (g : Nat → Nat) : Prop := ∀ i j, i < 4 → j < 4 → g i = g j → i = j
theorem Srcs.take {w w' : World} {g : Nat → Nat} {s : ByteArray} {p : Nat → Nat} (h : Srcs w g s p) (hi : Inj4 g) (k q : Nat) (hk : k < 4) (hS : SrcAt w' (g k) s q) (hG : w.grownBy w' (some (g k))) : Srcs w' g s (fun j => if j = k then q else p j) := fun j hj => by
  show SrcAt w' (g j) s (if j = k then q else p j)
  by_cases e : j = k
  · subst e; rw [if_pos rfl]; exact hS
  · rw [if_neg e]; exact (h j hj).kept hG (fun e2 => e (hi j k hj hk (Option.some.inj e2)))
theorem Srcs.congr {w : World} {g : Nat → Nat} {s : ByteArray} {p q : Nat → Nat} (h : Srcs w g s p) (e : ∀ j, j < 4 → p j = q j) : Srcs w g s q := fun j hj => by rw [← e j hj]; exact h j hj
theorem Srcs.below {w w' : World} {g : Nat → Nat} {s : ByteArray} {p : Nat → Nat} (h : Srcs w g s p) (hb : Below w.heap.size w w') : Srcs w' g s p := fun j hj => (h j hj).below hb
/-- The row of pointers. -/
def ptrs (g : Nat → Nat) : Array Value := ((List.range 4).map fun j => Value.pointer (some ⟨g j, 0, none⟩)).toArray
theorem ptrs_at (g : Nat → Nat) (k : Nat) (h : k < 4) : (ptrs g)[k]? = some (.pointer (some ⟨g k, 0, none⟩)) := by simp [ptrs, h]
end Go.Proofs.YtbknflckdbfogaaGreat
namespace Go.Proofs.YtbknflckdbfogaaGreat
open Go.RowKit
set_option linter.unusedVariables false

/-- The bytes l stand from byte a on. -/
def BytesAt (f : Nat → Bool) (a : Nat) (l : List UInt8) : Prop := ∀ i, i < 8 * l.length → f (8 * a + i) = sbit l i
theorem BytesAt.cut {f : Nat → Bool} {a : Nat} {l m : List UInt8} (h : BytesAt f a (l ++ m)) : BytesAt f a l ∧ BytesAt f (a + l.length) m := by
  refine ⟨fun i hi => ?_, fun i hi => ?_⟩
  · rw [h i (by rw [List.length_append]; omega)]
    unfold sbit
    rw [List.getD_eq_getElem?_getD, List.getD_eq_getElem?_getD, List.getElem?_append_left (by omega)]
  · have := h (8 * l.length + i) (by rw [List.length_append]; omega)
    rw [show 8 * (a + l.length) + i = 8 * a + (8 * l.length + i) by omega, this]
    unfold sbit
    rw [show (8 * l.length + i) / 8 = l.length + i / 8 by omega, show (8 * l.length + i) % 8 = i % 8 by omega, List.getD_eq_getElem?_getD, List.getD_eq_getElem?_getD, List.getElem?_append_right (by omega), Nat.add_sub_cancel_left]
theorem byte_take {f : Nat → Bool} {a : Nat} {l : List UInt8} (h : BytesAt f a l) (j : Nat) (hj : j < l.length) : takeN (fun i => f (8 * (a + j) + i)) 8 = (l.getD j 0).toNat := by
  have h1 : takeN (fun i => f (8 * (a + j) + i)) 8 = takeN (fun i => (l.getD j 0).toNat.testBit i) 8 := takeN_congr 8 fun i hi => by
    rw [show 8 * (a + j) + i = 8 * a + (8 * j + i) by omega, h (8 * j + i) (by omega)]
    unfold sbit
    rw [show (8 * j + i) / 8 = j by omega, show (8 * j + i) % 8 = i by omega]
  rw [h1, takeN_low, Nat.mod_eq_of_lt (UInt8.toNat_lt _)]
theorem two_take {f : Nat → Bool} {a : Nat} {l : List UInt8} (h : BytesAt f a l) (j : Nat) (hj : j + 1 < l.length) : takeN (fun i => f (8 * (a + j) + i)) 16 = (l.getD j 0).toNat + (l.getD (j + 1) 0).toNat * 256 := by
  rw [show (16 : Nat) = 8 + 8 from rfl, takeN_add, byte_take h j (by omega)]
  have := byte_take h (j + 1) hj
  rw [← this]
  have e : takeN (fun i => f (8 * (a + j) + (8 + i))) 8 = takeN (fun i => f (8 * (a + (j + 1)) + i)) 8 := takeN_congr 8 fun i _ => by rw [show 8 * (a + j) + (8 + i) = 8 * (a + (j + 1)) + i by omega]
  rw [e]
theorem byt_row {f : Nat → Bool} {a : Nat} {l : List UInt8} (h : BytesAt f a l) : bytF f (8 * a) l.length = l.map UInt8.toNat := by
  unfold bytF
  apply List.ext_getElem?
  intro j
  by_cases hj : j < l.length
  · rw [List.getElem?_map, List.getElem?_range hj, List.getElem?_map, List.getElem?_eq_getElem hj]
    show some _ = some _
    congr 1
    have := byte_take h j hj
    rw [List.getD_eq_getElem?_getD, List.getElem?_eq_getElem hj] at this
    refine Eq.trans (takeN_congr 8 fun i _ => ?_) this
    rw [show 8 * a + 8 * j + i = 8 * (a + j) + i by omega]
  · rw [List.getElem?_eq_none (by simp; omega), List.getElem?_eq_none (by simp; omega)]
theorem sblk_len (l : List UInt8) (last : Bool) : (sblk l last).length = 5 + l.length := by
  unfold sblk
  rw [List.length_append, List.length_map, List.length_cons, List.length_append, putN_len, putN_len]
theorem head_at (l : List UInt8) (last : Bool) (h : l.length ≤ 65535) : ((sblk l last).getD 0 0).toNat = flagN last ∧ ((sblk l last).getD 1 0).toNat + ((sblk l last).getD 2 0).toNat * 256 = l.length ∧ ((sblk l last).getD 3 0).toNat + ((sblk l last).getD 4 0).toNat * 256 = 65535 - l.length := by
  have e : sblk l last = UInt8.ofNat (flagN last) :: UInt8.ofNat (l.length / 256 ^ 0 % 256) :: UInt8.ofNat (l.length / 256 ^ 1 % 256) :: UInt8.ofNat ((65535 - l.length) / 256 ^ 0 % 256) :: UInt8.ofNat ((65535 - l.length) / 256 ^ 1 % 256) :: l := rfl
  have hf : flagN last ≤ 1 := by unfold flagN; cases last <;> simp
  rw [e]
  simp only [List.getD_cons_zero, List.getD_cons_succ, UInt8.toNat_ofNat']
  refine ⟨by omega, by omega, by omega⟩
/-- A stored block is read. -/
theorem sblk_reads {f : Nat → Bool} {L most a out : Nat} {l : List UInt8} {last : Bool} (h : BytesAt f a (sblk l last)) (hl : l.length ≤ 65535) (hL : 8 * (a + 5 + l.length) ≤ L) :
    blkF f L most (8 * a) out = if most < out + l.length then .error 2 else .ok (⟨0, l.map UInt8.toNat, []⟩, flagN last, 8 * (a + 5 + l.length), out + l.length) := by
  have hlen := sblk_len l last
  obtain ⟨h0, h1, h3⟩ := head_at l last hl
  have hb0 := byte_take h 0 (by omega)
  rw [Nat.add_zero, h0] at hb0
  have hf : flagN last ≤ 1 := by unfold flagN; cases last <;> simp
  have t1 : takeN (fun i => f (8 * a + i)) 1 = flagN last := by
    have := takeN_add (fun i => f (8 * a + i)) 1 7
    rw [hb0] at this
    have h2 := takeN_lt (fun i => f (8 * a + i)) 1
    omega
  have t2 : takeN (fun i => f (8 * a + 1 + i)) 2 = 0 := by
    have e1 := takeN_add (fun i => f (8 * a + i)) 1 7
    rw [hb0, t1] at e1
    have e2 := takeN_add (fun i => f (8 * a + (1 + i))) 2 5
    have e3 : takeN (fun i => f (8 * a + (1 + i))) 2 = takeN (fun i => f (8 * a + 1 + i)) 2 := takeN_congr 2 fun i _ => by rw [Nat.add_assoc]
    rw [show 2 + 5 = 7 from rfl] at e2
    rw [e3] at e2
    omega
  have hbody : BytesAt f (a + 5) l := by
    have e : sblk l last = (flagN last :: (putN l.length 2 ++ putN (65535 - l.length) 2)).map UInt8.ofNat ++ l := rfl
    rw [e] at h
    have := h.cut.2
    rw [List.length_map, List.length_cons, List.length_append, putN_len, putN_len] at this
    exact this
  have hrow := byt_row hbody
  unfold blkF
  rw [show tkF f L (8 * a) 1 = .ok (flagN last) by unfold tkF; rw [if_neg (by omega), t1]]
  simp only
  rw [show tkF f L (8 * a + 1) 2 = .ok 0 by unfold tkF; rw [if_neg (by omega), t2]]
  simp only [if_true]
  unfold stF
  rw [show (8 * a + 3 + 7) / 8 * 8 = 8 * (a + 1) by omega]
  rw [show tkF f L (8 * (a + 1)) 16 = .ok l.length by unfold tkF; rw [if_neg (by omega), two_take h 1 (by omega), h1]]
  simp only
  rw [show 8 * (a + 1) + 16 = 8 * (a + 3) by omega]
  rw [show tkF f L (8 * (a + 3)) 16 = .ok (65535 - l.length) by unfold tkF; rw [if_neg (by omega), two_take h 3 (by omega), h3]]
  simp only
  rw [if_neg (by omega), show 8 * (a + 1) + 32 = 8 * (a + 5) by omega, if_neg (by omega), hrow]
  by_cases hm : most < out + l.length
  · rw [if_pos hm, if_pos hm]
  · rw [if_neg hm, if_neg hm]
    simp only
    rw [show 8 * (a + 5) + 8 * l.length = 8 * (a + 5 + l.length) by omega]
def litT (l : List UInt8) : List Tok := l.map fun b => ⟨b.toNat, 0, 0⟩
theorem jkP_cons (b : Blk) (l : List Blk) : jkP (b :: l) = bkP b ++ jkP l := rfl
theorem bk_lit (l : List UInt8) : bkP ⟨0, l.map UInt8.toNat, []⟩ = litT l := by
  unfold bkP litT
  rw [List.append_nil, List.map_map]; rfl
/-- A stored stream is read. -/
theorem sto_reads {f : Nat → Bool} {L most : Nat} : ∀ (k fuel a out : Nat) (acc : List Blk) (l : List UInt8), l.length ≤ k → l.length < fuel → BytesAt f a (stoF l) → 8 * (a + (stoF l).length) ≤ L →
    (most < out + l.length → blksF f L most fuel (8 * a) out acc = .error 2) ∧ (out + l.length ≤ most → ∃ new, blksF f L most fuel (8 * a) out acc = .ok (acc ++ new, 8 * (a + (stoF l).length)) ∧ jkP new = litT l)
  | k, 0, a, out, acc, l, _, hf, _, _ => absurd hf (Nat.not_lt_zero _)
  | k, fuel + 1, a, out, acc, l, hk, hf, hb, hL => by
    by_cases hm : 65535 < l.length
    · have hlt : (l.take 65535).length = 65535 := by rw [List.length_take]; omega
      have hld : (l.drop 65535).length = l.length - 65535 := List.length_drop
      rw [stoF_more hm] at hb hL ⊢
      rw [List.length_append, sblk_len, hlt] at hL ⊢
      obtain ⟨hb1, hb2⟩ := hb.cut
      rw [sblk_len, hlt] at hb2
      have h1 := sblk_reads (most := most) (out := out) hb1 (by omega) (by rw [hlt]; omega) (L := L)
      rw [hlt] at h1
      cases k with
      | zero => omega
      | succ k =>
        have ih := fun acc' => sto_reads (f := f) (L := L) (most := most) k fuel (a + (5 + 65535)) (out + 65535) acc' (l.drop 65535) (by omega) (by omega) hb2 (by omega)
        rw [blksF, h1]
        by_cases hmm : most < out + 65535
        · rw [if_pos hmm]
          exact ⟨fun _ => rfl, fun h => by omega⟩
        · rw [if_neg hmm]
          simp only
          rw [if_neg (show ¬ flagN false = 1 by decide)]
          obtain ⟨i1, i2⟩ := ih (acc ++ [⟨0, (l.take 65535).map UInt8.toNat, []⟩])
          rw [hld] at i1 i2
          rw [show a + 5 + 65535 = a + (5 + 65535) by omega]
          refine ⟨fun h => i1 (by omega), fun h => ?_⟩
          obtain ⟨new, e1, e2⟩ := i2 (by omega)
          refine ⟨⟨0, (l.take 65535).map UInt8.toNat, []⟩ :: new, ?_, ?_⟩
          · rw [e1, List.append_assoc]
            rw [show a + (5 + 65535) + (stoF (l.drop 65535)).length = a + (5 + 65535 + (stoF (l.drop 65535)).length) by omega]; rfl
          · rw [jkP_cons, bk_lit, e2]
            unfold litT
            rw [← List.map_append, List.take_append_drop]
    · rw [stoF_last hm] at hb hL ⊢
      rw [sblk_len] at hL ⊢
      have h1 := sblk_reads (most := most) (out := out) hb (by omega) (by omega) (L := L)
      rw [blksF, h1]
      by_cases hmm : most < out + l.length
      · rw [if_pos hmm]
        exact ⟨fun _ => rfl, fun h => by omega⟩
      · rw [if_neg hmm]
        simp only
        rw [if_pos (show flagN true = 1 by decide)]
        refine ⟨fun h => absurd h hmm, fun _ => ⟨[⟨0, l.map UInt8.toNat, []⟩], ?_, ?_⟩⟩
        · rw [show a + 5 + l.length = a + (5 + l.length) by omega]
        · rw [jkP_cons, bk_lit]
          exact List.append_nil _
theorem bytes_whole (d : ByteArray) : BytesAt (bF8 d) 0 d.data.toList := fun i _ => by rw [Nat.mul_zero, Nat.zero_add]; rfl
/-- What Deflate answers is read again: whole, or refused where the limit is less. -/
theorem def_reads {s d : ByteArray} {lv : Nat} (h : DefOk s lv d) (hs : s.size ≤ 65536) (most : Nat) :
    (most < s.size → blksF (bF8 d) (8 * d.size) most (8 * d.size + 1) 0 0 [] = .error 2) ∧
    (s.size ≤ most → ∃ l q, blksF (bF8 d) (8 * d.size) most (8 * d.size + 1) 0 0 [] = .ok (l, q) ∧ (q + 7) / 8 = d.size ∧ Go.Proofs.YtbknflckdbfogaaGreat.bs (expF 9223372036854775807 (jkP l) []).1 = s) := by
  obtain ⟨bs, hb, ⟨rfl, h2⟩ | ⟨h1, h2⟩⟩ := h
  · have hr := packed_reads hb hs most
    refine ⟨fun hm => by rw [hr, if_pos hm], fun hm => ⟨_, _, by rw [hr, if_neg (by omega)], (packS_size _).symm, packed_text hb hs⟩⟩
  · have hz : d.size = (stoF s.data.toList).length := by rw [← h1]; simp
    have hsl : s.data.toList.length = s.size := by simp
    have hge := stoF_ge s.data.toList.length s.data.toList (Nat.le_refl _)
    have hb := bytes_whole d
    rw [h1] at hb
    obtain ⟨i1, i2⟩ := sto_reads (f := bF8 d) (L := 8 * d.size) (most := most) s.size (8 * d.size + 1) 0 0 [] s.data.toList (by omega) (by omega) hb (by omega)
    simp only [hsl, Nat.mul_zero, Nat.zero_add] at i1 i2
    refine ⟨i1, fun hm => ?_⟩
    obtain ⟨new, e1, e2⟩ := i2 hm
    refine ⟨new, _, by rw [e1, List.nil_append], by omega, ?_⟩
    have ht : litT s.data.toList = (tok0 s).take s.size := by
      rw [List.take_of_length_le (by rw [tok0_len]; exact Nat.le_refl _)]
      unfold litT tok0 nb
      rw [List.map_map]; rfl
    rw [e2, ht, tok0_says s 9223372036854775807 (by omega) s.size (Nat.le_refl _), List.take_of_length_le (by rw [nb_len]; exact Nat.le_refl _)]
    exact bs_nb s
/-- The same, at a place within another text. -/
theorem def_anywhere {s d : ByteArray} {lv : Nat} (h : DefOk s lv d) (hs : s.size ≤ 65536) (most : Nat) (hm : s.size ≤ most) (b : ByteArray) :
    ∃ l q, blksF (bF8 (d ++ b)) (8 * (d ++ b).size) most (8 * (d ++ b).size + 1) 0 0 [] = .ok (l, q) ∧ (q + 7) / 8 = d.size ∧ Go.Proofs.YtbknflckdbfogaaGreat.bs (expF 9223372036854775807 (jkP l) []).1 = s := by
  obtain ⟨l, q, e1, e2, e3⟩ := (def_reads h hs most).2 hm
  have hq : q ≤ 8 * d.size := (blksF_place _ _ _ _ _ _ e1).2
  exact ⟨l, q, blksF_loc (g := bF8 (d ++ b)) (M := 8 * (d ++ b).size) _ (8 * (d ++ b).size + 1) 0 0 [] l q e1 ((bits_front d b).less hq) (by rw [ByteArray.size_append]; omega) (by rw [ByteArray.size_append]; omega), e2, e3⟩
end Go.Proofs.YtbknflckdbfogaaGreat
