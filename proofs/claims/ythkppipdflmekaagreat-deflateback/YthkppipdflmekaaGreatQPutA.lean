/- Contract of bits.Put: the bytes of a number, the lowest first. -/
import Derived.Test.YthkppipdflmekaaGreatRows
import Derived.Test.YthkppipdflmekaaGreatQHuffM
import Derived.WalkSmall
set_option maxRecDepth 100000
set_option maxHeartbeats 400000
namespace Go.Proofs.YthkppipdflmekaaGreat
open Go.RowKit
set_option linter.unusedVariables false
def qa6 (w : World) (g : Nat) (s : ByteArray) (p : Nat) : Prop := w.heap[g]? = some (.cells #[.string s, .int .i64 (p : Int)] 142 (0, 0))
theorem qa6.lt {w : World} {g p : Nat} {s : ByteArray} (h : qa6 w g s p) : g < w.heap.size := by
 rcases Nat.lt_or_ge g w.heap.size with hl | hl
 · exact hl
 · unfold qa6 at h; rw [Array.getElem?_eq_none hl] at h; cases h
theorem qa6.below {w w' : World} {g p : Nat} {s : ByteArray} (h : qa6 w g s p) (hb : Below w.heap.size w w') : qa6 w' g s p := (hb.block g h.lt).trans h
theorem qa6.text {w : World} {g p : Nat} {s : ByteArray} (h : qa6 w g s p) : w.cell? ⟨g, 0, none⟩ = some (.string s) := by rw [cell_of_row _ _ _ _ _ _ h]; rfl
theorem qa6.place {w : World} {g p : Nat} {s : ByteArray} (h : qa6 w g s p) : w.cell? ⟨g, 1, none⟩ = some (.int .i64 (p : Int)) := by rw [cell_of_row _ _ _ _ _ _ h]; rfl
theorem qa6.free {w : World} {g p : Nat} {s : ByteArray} (h : qa6 w g s p) (j : Nat) : w.frozen? ⟨g, j, none⟩ = false := frozen_of_row _ _ _ _ _ h
theorem qa6.set {w : World} {g p : Nat} {s : ByteArray} (h : qa6 w g s p) (q : Nat) : qa6 (w.setCell ⟨g, 1, none⟩ (.int .i64 (q : Int))) g s q := by
 unfold qa6; rw [heap_setCell_same _ _ _ _ _ _ h]; rfl
theorem qa6.drewN {w : World} {g p : Nat} {s : ByteArray} (h : qa6 w g s p) (n : Nat) : qa6 (w.drewN n) g s p := h
theorem qlc {k : IntKind} {a b : Int} (h : a = b) : Ending.returned (.int k a) = .returned (.int k b) := by rw [h]
def near (n m : Int) : Nat := (min (max n 0) m).toNat
theorem qpc (n m : Int) (hm : 0 ≤ m) : (near n m : Int) = min (max n 0) m := by unfold near; omega
theorem qlo (n m : Int) : near n m ≤ m.toNat := by unfold near; omega
theorem qiv (n m : Int) (w : World) (hn : -9223372036854775808 ≤ n ∧ n ≤ 9223372036854775807) (hm : 0 ≤ m ∧ m ≤ 9223372036854775807) :
    Calls Tryz.prog 84 #[.int .i64 n, .int .i64 m] w fun e w' => e = .returned (.int .i64 (near n m : Int)) ∧ w' = w := by
 have HN : Hid ((near n m : Int) = min (max n 0) m) := qpc n m hm.1
 go_enter Tryz.func84, Tryz.ntmps84
 go_wp2
 all_goals
  go_ret
  exact ⟨qlc (by rw [HN.out]; omega), rfl⟩
theorem qg9 (n : Nat) (w : World) (hn : n ≤ 9000000000000000000) :
    Calls Tryz.prog 58 #[.int .i64 (n : Int)] w fun e w' => e = .returned (.int .i64 (((n + 7) / 8 : Nat) : Int)) ∧ w' = w := by
 go_enter Tryz.func58, Tryz.ntmps58
 go_wp2
 go_ret
 exact ⟨rfl, rfl⟩
theorem q3q (s : ByteArray) (p : Nat) (h : p / 8 < s.size) : bits BinOp.and IntKind.u32 ((s[p / 8].toNat : Int) / 2 ^ (p % 8) % 4294967296) 1 = ((sbit s.data.toList p).toNat : Int) := by
 have hb := s[p / 8].toNat_lt
 have hd : s[p / 8].toNat / 2 ^ (p % 8) < 256 := Nat.lt_of_le_of_lt (Nat.div_le_self _ _) hb
 have e : (s[p / 8].toNat : Int) / 2 ^ (p % 8) % 4294967296 = ((s[p / 8].toNat / 2 ^ (p % 8) : Nat) : Int) := by
  have e1 : ((s[p / 8].toNat / 2 ^ (p % 8) : Nat) : Int) = (s[p / 8].toNat : Int) / 2 ^ (p % 8) := by simp
  rw [← e1]
  generalize s[p / 8].toNat / 2 ^ (p % 8) = q at *
  omega
 have e2 : s.data.toList.getD (p / 8) 0 = s[p / 8] := by
  rw [List.getD_eq_getElem?_getD, List.getElem?_eq_getElem (by rw [qad]; exact h)]; rfl
 rw [e, show (1 : Int) = ((1 : Nat) : Int) by rfl, u32_and_nat _ _ (by omega) (by decide), nat_mask1]
 unfold sbit
 rw [e2, Nat.toNat_testBit]
theorem q3r (g : Nat) (s : ByteArray) (p : Nat) (w : World) (hS : qa6 w g s p) (hs : s.size ≤ 140737488351232) (hp : p ≤ 4611686018427387904) :
    Calls Tryz.prog 98 #[.pointer (some ⟨g, 0, none⟩)] w fun e w' => e = .returned (.int .u32 ((sbit s.data.toList p).toNat : Int)) ∧ qa6 w' g s (p + 1) ∧ w.grownBy w' (some g) := by
 have c1 := hS.place
 have c0 := hS.text
 have f1 := hS.free 1
 have HS : Hid (qa6 (w.setCell ⟨g, 1, none⟩ (.int .i64 ((p + 1 : Nat) : Int))) g s (p + 1)) := hS.set (p + 1)
 have HG : Hid (w.grownBy (w.setCell ⟨g, 1, none⟩ (.int .i64 ((p + 1 : Nat) : Int))) (some g)) := gset (qcj w _) 1 _
 clear hS
 by_cases hlt : p / 8 < s.size
 · go_enter Tryz.func98, Tryz.ntmps98
   go_wp2
   go_ret
   refine ⟨qlc ?_, HS.out, HG.out⟩
   exact q3q s p hlt
 · have hb : sbit s.data.toList p = false := qih _ _ (by rw [qad]; omega)
   go_enter Tryz.func98, Tryz.ntmps98
   go_wp2
   go_ret
   refine ⟨qlc (by rw [hb]; rfl), HS.out, HG.out⟩
theorem q25 (s : ByteArray) (n : Int) (w : World) (hn : 0 ≤ n) (hs : s.size ≤ 9223372036854775807) :
    Calls Tryz.prog 4 #[.string s, .int .i64 n] w fun e w' => e = .returned (.string (s.extract 0 n.toNat)) ∧ w' = w := by
 obtain ⟨m, rfl⟩ := Int.eq_ofNat_of_zero_le hn
 rw [Int.toNat_natCast]
 by_cases h : m < s.size
 · go_enter Tryz.func4, Tryz.ntmps4
   go_wp2
   go_ret
   exact ⟨rfl, rfl⟩
 · have HE : Hid (_ = _) := q26 s m (by omega)
   go_enter Tryz.func4, Tryz.ntmps4
   go_wp2
   go_ret
   rw [HE.out]
   exact ⟨rfl, rfl⟩
open Go
set_option linter.unusedVariables false
theorem qfk {L M : List Bool} {j : Nat} (h : ∀ i, i < 8 → L.getD (8 * j + i) false = M.getD (8 * j + i) false) : qbe L j = qbe M j := by
 unfold qbe; rw [qaz 8 h]
theorem qnp (L : List Bool) (b : Bool) (i : Nat) : (L ++ [b]).getD i false = if i = L.length then b else L.getD i false := by
 rw [List.getD_eq_getElem?_getD, List.getD_eq_getElem?_getD]
 by_cases h : i < L.length
 · rw [List.getElem?_append_left h, if_neg (by omega)]
 · by_cases h2 : i = L.length
   · subst h2; simp
   · rw [List.getElem?_eq_none (by simp; omega), List.getElem?_eq_none (by omega), if_neg h2]
theorem qip (L : List Bool) (b : Bool) (j : Nat) (h : j ≠ L.length / 8) : qbe (L ++ [b]) j = qbe L j := qfk fun i hi => by
 rw [qnp, if_neg (by omega)]
theorem qti (L : List Bool) (b : Bool) : (qbe (L ++ [b]) (L.length / 8)).toNat = (qbe L (L.length / 8)).toNat ||| b.toNat * 2 ^ (L.length % 8) := by
 have hr : L.length % 8 < 8 := Nat.mod_lt _ (by decide)
 apply Nat.eq_of_testBit_eq
 intro i
 rw [Nat.testBit_or]
 by_cases hi : i < 8
 · rw [qiq _ _ _ hi, qiq _ _ _ hi, qnp]
   by_cases e : i = L.length % 8
   · subst e
     rw [if_pos (by omega), List.getD_eq_getElem?_getD, List.getElem?_eq_none (by omega)]
     cases b <;> simp
   · rw [if_neg (by omega)]
     have : (b.toNat * 2 ^ (L.length % 8)).testBit i = false := by
      cases b
      · simp
      · simp [Nat.testBit_two_pow]; omega
     rw [this, Bool.or_false]
 · have h1 : ∀ x : UInt8, x.toNat.testBit i = false := fun x => Nat.testBit_lt_two_pow (Nat.lt_of_lt_of_le x.toNat_lt (Nat.pow_le_pow_right (n := 2) (i := 8) (by decide) (by omega)))
   have h2 : (b.toNat * 2 ^ (L.length % 8)).testBit i = false := by
    cases b
    · simp
    · simp [Nat.testBit_two_pow]; omega
   rw [h1, h1, h2]; rfl
theorem qtj (L : List Bool) (j : Nat) (h : L.length ≤ 8 * j) : qbe L j = 0 := by
 have : qbe L j = qbe [] j := qfk fun i hi => by
  rw [List.getD_eq_getElem?_getD, List.getElem?_eq_none (by omega)]; simp
 rw [this]
 unfold qbe
 have : qal (fun i => ([] : List Bool).getD (8 * j + i) false) 8 = qal (fun _ => false) 8 := qaz 8 fun i hi => by simp
 rw [this]; decide
def qb1 (L : List Bool) (k : Nat) : List Value := (List.range 64).map fun j => .int .u8 ((qbe L (k + j)).toNat : Int)
theorem qbn (L : List Bool) (k : Nat) : (qb1 L k).length = 64 := by simp [qb1]
theorem qf2 (L : List Bool) (k j : Nat) (h : j < 64) : (qb1 L k)[j]? = some (.int .u8 ((qbe L (k + j)).toNat : Int)) := by simp [qb1, h]
theorem qoy {L M : List Bool} {k m : Nat} (h : ∀ j, j < 64 → qbe L (k + j) = qbe M (m + j)) : qb1 L k = qb1 M m := by
 unfold qb1
 apply List.map_congr_left
 intro j hj
 rw [h j (List.mem_range.1 hj)]
theorem qil (L : List Bool) (k : Nat) : ∀ v ∈ qb1 L k, v.oneCell' = true := by
 intro v hv
 simp [qb1] at hv
 obtain ⟨j, _, rfl⟩ := hv
 rfl
theorem qvh (L : List Bool) (k i : Nat) (b : UInt8) (M : List Bool) (hi : i < 64) (h : qbe M (k + i) = b) (ho : ∀ j, j < 64 → j ≠ i → qbe M (k + j) = qbe L (k + j)) : (qb1 L k).set i (.int .u8 (b.toNat : Int)) = qb1 M k := by
 apply List.ext_getElem?
 intro j
 by_cases hj : j < 64
 · rw [qf2 _ _ _ hj, List.getElem?_set, qf2 _ _ _ hj, qbn]
   by_cases e : i = j
   · subst e; simp [hi, h]
   · rw [if_neg e, ho j hj (fun h => e h.symm)]
 · rw [List.getElem?_eq_none (by rw [List.length_set, qbn]; omega), List.getElem?_eq_none (by rw [qbn]; omega)]
def qbj : List Value := List.replicate 64 (.int .u8 0)
theorem qkb (L : List Bool) (k : Nat) (h : L.length ≤ 8 * k) : qb1 L k = qbj := by
 apply List.ext_getElem?
 intro j
 by_cases hj : j < 64
 · rw [qf2 _ _ _ hj, qtj _ _ (by omega)]
   unfold qbj
   rw [List.getElem?_replicate, if_pos hj]; rfl
 · rw [List.getElem?_eq_none (by rw [qbn]; omega), List.getElem?_eq_none (by simp [qbj]; omega)]
theorem highK (x m k : Nat) : (qdg x m).take (k + 1) = (qdg x m).take k ++ (if k < m then [x.testBit (m - 1 - k)] else []) := by
 rw [List.take_add_one]
 congr 1
 by_cases h : k < m
 · simp [qdg, h]
 · rw [List.getElem?_eq_none (by rw [qcq]; omega), if_neg h]; rfl
structure Tok where
 b : Nat
 l : Int
 d : Int
def qbr (t : Tok) : Bool := if t.l = 0 then decide (t.d = 0) else decide (t.b = 0 ∧ 3 ≤ t.l ∧ t.l ≤ 258 ∧ 1 ≤ t.d ∧ t.d ≤ 32768)
def sayN (out : List Nat) (d : Nat) : Nat → List Nat
 | 0 => out
 | k + 1 => sayN out d k ++ [(sayN out d k).getD ((sayN out d k).length - d) 0]
theorem qdy (out : List Nat) (d : Nat) : ∀ k, (sayN out d k).length = out.length + k
 | 0 => rfl
 | k + 1 => by rw [sayN, List.length_append, qdy out d k]; simp; omega
def sayT (out : List Nat) (t : Tok) : List Nat := if t.l = 0 then out ++ [t.b] else sayN out t.d.toNat t.l.toNat
def wid (t : Tok) : Int := if 1 ≤ t.l then t.l else 1
def errT (out : List Nat) (most : Int) (t : Tok) : Nat := if qbr t = false ∨ (out.length : Int) < t.d then 4 else if most < (out.length : Int) + wid t then 2 else 0
def expF (most : Int) : List Tok → List Nat → List Nat × Nat
 | [], out => (out, 0)
 | t :: ts, out => if errT out most t = 0 then expF most ts (sayT out t) else ([], errT out most t)
theorem qe8 {t : Tok} (h : t.l = 0) : qbr t = decide (t.d = 0) := by unfold qbr; rw [if_pos h]
theorem qci {t : Tok} (h : ¬ t.l = 0) (ht : qbr t = true) : t.b = 0 ∧ 3 ≤ t.l ∧ t.l ≤ 258 ∧ 1 ≤ t.d ∧ t.d ≤ 32768 := by
 unfold qbr at ht; rw [if_neg h] at ht; simpa using ht
theorem qlx {t : Tok} (h1 : t.b = 0) (h2 : 3 ≤ t.l) (h3 : t.l ≤ 258) (h4 : 1 ≤ t.d) (h5 : t.d ≤ 32768) : qbr t = true := by
 unfold qbr; rw [if_neg (by omega)]; simpa using ⟨h1, h2, h3, h4, h5⟩
theorem qed (t : Tok) : 1 ≤ wid t := by unfold wid; split <;> omega
theorem q0p {t : Tok} (h : qbr t = true) : wid t ≤ 258 := by
 unfold wid
 split
 · exact (qci (by omega) h).2.2.1
 · decide
theorem qhl {out : List Nat} {t : Tok} (h : qbr t = true) : ((sayT out t).length : Int) = out.length + wid t := by
 unfold sayT wid
 by_cases h0 : t.l = 0
 · rw [if_pos h0, if_neg (by omega)]; simp
 · have := qci h0 h
   rw [if_neg h0, if_pos (by omega), qdy]; omega
theorem qjc {out : List Nat} {most : Int} {t : Tok} (h : errT out most t = 0) : qbr t = true ∧ t.d ≤ (out.length : Int) ∧ (out.length : Int) + wid t ≤ most := by
 unfold errT at h
 split at h
 · cases h
 · rename_i h1
   split at h
   · cases h
   · rename_i h2
     refine ⟨?_, by omega, by omega⟩
     cases hc : qbr t
     · exact absurd (Or.inl hc) h1
     · rfl
theorem ql6 {out : List Nat} {most : Int} {t : Tok} (h1 : qbr t = true) (h2 : t.d ≤ (out.length : Int)) (h3 : (out.length : Int) + wid t ≤ most) : errT out most t = 0 := by
 unfold errT
 rw [if_neg (fun h => by rcases h with h | h; · rw [h1] at h; cases h
                         · omega), if_neg (by omega)]
theorem qi8 (most : Int) (t : Tok) : ∀ (ts : List Tok) (out o : List Nat), expF most ts out = (o, 0) → errT o most t = 0 → expF most (ts ++ [t]) out = (sayT o t, 0)
 | [], out, o, h, he => by
  simp only [expF] at h
  cases h
  rw [List.nil_append, expF, if_pos he]; rfl
 | u :: ts, out, o, h, he => by
  rw [List.cons_append, expF]
  rw [expF] at h
  by_cases hu : errT out most u = 0
  · rw [if_pos hu] at h ⊢
    exact qi8 most t ts _ o h he
  · rw [if_neg hu] at h
    simp only [Prod.mk.injEq] at h
    exact absurd h.2 hu
def qju (most : Int) (ts : List Tok) (k : Nat) (out : List Nat) : Prop := expF most ts [] = expF most (ts.drop k) out
theorem qpk (most : Int) (ts : List Tok) : qju most ts 0 [] := rfl
theorem qpn {ts : List Tok} {k : Nat} {t : Tok} (h : ts[k]? = some t) : ts.drop k = t :: ts.drop (k + 1) := by
 obtain ⟨hk, e⟩ := List.getElem?_eq_some_iff.1 h
 rw [List.drop_eq_getElem_cons hk, e]
theorem qtw {most : Int} {ts : List Tok} {k : Nat} {out : List Nat} {t : Tok} (h : qju most ts k out) (ht : ts[k]? = some t) (he : errT out most t = 0) : qju most ts (k + 1) (sayT out t) := by
 unfold qju at *
 rw [h, qpn ht, expF, if_pos he]
theorem qjb {most : Int} {ts : List Tok} {k : Nat} {out : List Nat} {t : Tok} (h : qju most ts k out) (ht : ts[k]? = some t) (he : errT out most t ≠ 0) : expF most ts [] = ([], errT out most t) := by
 unfold qju at *
 rw [h, qpn ht, expF, if_neg he]
theorem qwt {most : Int} {ts : List Tok} {k : Nat} {out : List Nat} (h : qju most ts k out) (hk : ts.length ≤ k) : expF most ts [] = (out, 0) := by
 unfold qju at *
 rw [h, List.drop_of_length_le hk]; rfl
def byt (s : ByteArray) (k : Nat) : Nat := (s.data.toList.getD k 0).toNat
theorem qn3 (s : ByteArray) (k : Nat) (h : k < s.size) : s[k].toNat = byt s k := by
 unfold byt
 rw [List.getD_eq_getElem?_getD, List.getElem?_eq_getElem (by simpa using h)]; rfl
theorem q4t (s : ByteArray) (k : Nat) : byt s k < 256 := UInt8.toNat_lt _
def nb (s : ByteArray) : List Nat := s.data.toList.map UInt8.toNat
theorem qff (s : ByteArray) : (nb s).length = s.size := by simp [nb]
theorem q4k (s : ByteArray) (k : Nat) (h : k < s.size) : (nb s)[k]? = some (byt s k) := by
 unfold nb byt
 rw [List.getElem?_map, List.getD_eq_getElem?_getD, List.getElem?_eq_getElem (by simpa using h)]; rfl
theorem q3n (s : ByteArray) : bs (nb s) = s := by
 apply qhc; rw [qb4]; exact qv0 _
theorem qlq (s : ByteArray) (k : Nat) (h : k < s.size) : (nb s).take (k + 1) = (nb s).take k ++ [byt s k] := by
 rw [List.take_add_one, q4k s k h]; rfl
def qbz (s : ByteArray) (a b : Nat) : Nat → Nat
 | 0 => 0
 | f + 1 => if byt s a = byt s b then qbz s (a + 1) (b + 1) f + 1 else 0
theorem qjk (s : ByteArray) : ∀ (f a b : Nat), qbz s a b f ≤ f
 | 0, a, b => Nat.le_refl _
 | f + 1, a, b => by
  rw [qbz]; split
  · have := qjk s f (a + 1) (b + 1); omega
  · omega
theorem qjj (s : ByteArray) : ∀ (f a b i : Nat), i < qbz s a b f → byt s (a + i) = byt s (b + i)
 | 0, a, b, i, h => by simp [qbz] at h
 | f + 1, a, b, i, h => by
  rw [qbz] at h
  split at h
  · rename_i e
    match i with
    | 0 => exact e
    | i + 1 =>
     have := qjj s f (a + 1) (b + 1) i (by omega)
     rwa [show a + 1 + i = a + (i + 1) by omega, show b + 1 + i = b + (i + 1) by omega] at this
  · omega
theorem qoe (s : ByteArray) : ∀ (f a b n : Nat), n ≤ f → (∀ i, i < n → byt s (a + i) = byt s (b + i)) → n ≤ qbz s a b f
 | f, a, b, 0, _, _ => Nat.zero_le _
 | 0, a, b, n + 1, h, _ => by omega
 | f + 1, a, b, n + 1, h, hs => by
  have h0 : byt s a = byt s b := hs 0 (by omega)
  rw [qbz, if_pos h0]
  have := qoe s f (a + 1) (b + 1) n (by omega) (fun i hi => by
   have := hs (i + 1) (by omega)
   rwa [show a + (i + 1) = a + 1 + i by omega, show b + (i + 1) = b + 1 + i by omega] at this)
  omega
def qfp (s : ByteArray) (a b top n : Nat) : Prop := n ≤ top ∧ qbz s a b top = n + qbz s (a + n) (b + n) (top - n)
theorem qme (s : ByteArray) (a b top : Nat) : qfp s a b top 0 := ⟨Nat.zero_le _, by simp⟩
theorem qof {s : ByteArray} {a b top n : Nat} (h : qfp s a b top n) (hn : n < top) (e : byt s (a + n) = byt s (b + n)) : qfp s a b top (n + 1) := by
 refine ⟨hn, ?_⟩
 have h2 := h.2
 rw [show top - n = (top - (n + 1)) + 1 by omega, qbz, if_pos e] at h2
 rw [h2, show a + n + 1 = a + (n + 1) by omega, show b + n + 1 = b + (n + 1) by omega]; omega
theorem qjl {s : ByteArray} {a b top n : Nat} (h : qfp s a b top n) (e : top ≤ n ∨ byt s (a + n) ≠ byt s (b + n)) : qbz s a b top = n := by
 have h2 := h.2
 have h1 := h.1
 rw [h2]
 rcases e with e | e
 · rw [show top - n = 0 by omega]; rfl
 · cases hq : top - n with
   | zero => rfl
   | succ f => rw [qbz, if_neg e]; rfl
def key3 (s : ByteArray) (p : Nat) : ByteArray := s.extract p (p + 3)
def qhe (s key : ByteArray) : Nat → Nat
 | 0 => 0
 | n + 1 => if key3 s n = key then n + 1 else qhe s key n
theorem qlt (s key : ByteArray) : ∀ n, qhe s key n ≤ n
 | 0 => Nat.le_refl _
 | n + 1 => by rw [qhe]; split; · exact Nat.le_refl _
               · exact Nat.le_succ_of_le (qlt s key n)
theorem qi0 (s key : ByteArray) : ∀ n, 0 < qhe s key n → key3 s (qhe s key n - 1) = key
 | 0, h => by simp [qhe] at h
 | n + 1, h => by
  rw [qhe] at h ⊢
  split
  · rename_i e; exact e
  · rename_i e
    rw [if_neg e] at h
    exact qi0 s key n h
def qda (s : ByteArray) (p : Nat) : Nat := qhe s (key3 s p) p
theorem qzm {s : ByteArray} {p q : Nat} (h : key3 s p = key3 s q) (hp : p + 3 ≤ s.size) (hq : q + 3 ≤ s.size) (i : Nat) (hi : i < 3) : byt s (p + i) = byt s (q + i) := by
 have e : ((key3 s p).data.toList).getD i 0 = ((key3 s q).data.toList).getD i 0 := by rw [h]
 unfold key3 at e
 rw [qba, qba] at e
 unfold byt
 rw [List.getD_eq_getElem?_getD, List.getD_eq_getElem?_getD, List.getElem?_take, List.getElem?_take, if_pos (by omega), if_pos (by omega), List.getElem?_drop, List.getElem?_drop] at e
 rw [List.getD_eq_getElem?_getD, List.getD_eq_getElem?_getD, e]
def qjh (s : ByteArray) (at_ top : Nat) : Nat → Nat → Tok → Tok
 | 0, _, best => best
 | f + 1, place, best =>
  if place = 0 ∨ (top : Int) ≤ best.l then best
  else if 32768 < at_ - (place - 1) then best
  else qjh s at_ top f (qda s (place - 1)) (if best.l < (qbz s (place - 1) at_ top : Int) then ⟨0, qbz s (place - 1) at_ top, ((at_ - (place - 1) : Nat) : Int)⟩ else best)
def qct : Tok := ⟨0, 0, 0⟩
def qbw (s : ByteArray) (tries at_ : Nat) : Tok := if s.size < at_ + 3 then qct else qjh s at_ (min 258 (s.size - at_)) tries (qda s at_) qct
def qp6 (s : ByteArray) (at_ : Nat) (t : Tok) : Prop := t = qct ∨ (t.b = 0 ∧ 3 ≤ t.l ∧ t.l ≤ 258 ∧ 1 ≤ t.d ∧ t.d ≤ 32768 ∧ t.d ≤ (at_ : Int) ∧ (at_ : Int) + t.l ≤ s.size ∧ ∀ i : Nat, (i : Int) < t.l → byt s (at_ - t.d.toNat + i) = byt s (at_ + i))
theorem qp6.nonneg {s : ByteArray} {p : Nat} {t : Tok} (h : qp6 s p t) : 0 ≤ t.l ∧ t.l ≤ 258 := by
 rcases h with rfl | h
 · exact ⟨by decide, by decide⟩
 · omega
def qfn (s : ByteArray) (at_ place : Nat) : Prop := place = 0 ∨ (0 < place ∧ place ≤ at_ ∧ key3 s (place - 1) = key3 s at_)
theorem qq5 (s : ByteArray) (at_ : Nat) : qfn s at_ (qda s at_) := by
 by_cases h : qda s at_ = 0
 · exact .inl h
 · exact .inr ⟨by omega, qlt _ _ _, qi0 _ _ _ (by unfold qda at h; omega)⟩
theorem qke {s : ByteArray} {at_ place : Nat} (h : qfn s at_ place) (h0 : 0 < place) : qfn s at_ (qda s (place - 1)) := by
 rcases h with h | ⟨_, h1, h2⟩
 · omega
 · by_cases hp : qda s (place - 1) = 0
   · exact .inl hp
   · have := qlt s (key3 s (place - 1)) (place - 1)
     have hk := qi0 s (key3 s (place - 1)) (place - 1) (by unfold qda at hp; omega)
     refine .inr ⟨by omega, by unfold qda; omega, ?_⟩
     unfold qda; rw [hk, h2]
theorem qp3 {s : ByteArray} {at_ place : Nat} (h : qfn s at_ place) (h0 : 0 < place) (ha : at_ + 3 ≤ s.size) : 3 ≤ qbz s (place - 1) at_ (min 258 (s.size - at_)) := by
 rcases h with h | ⟨_, h1, h2⟩
 · omega
 · exact qoe s _ _ _ 3 (by omega) (fun i hi => qzm h2 (by omega) ha i hi)
theorem qro {s : ByteArray} {at_ place : Nat} (h : qfn s at_ place) (h0 : 0 < place) (ha : at_ + 3 ≤ s.size) (hd : ¬ 32768 < at_ - (place - 1)) :
    qp6 s at_ ⟨0, qbz s (place - 1) at_ (min 258 (s.size - at_)), ((at_ - (place - 1) : Nat) : Int)⟩ := by
 have h3 := qp3 h h0 ha
 have hle := qjk s (min 258 (s.size - at_)) (place - 1) at_
 rcases h with h | ⟨_, h1, h2⟩
 · omega
 · refine .inr ⟨rfl, by simp only; omega, by simp only; omega, by simp only; omega, by simp only; omega, by simp only; omega, by simp only; omega, fun i hi => ?_⟩
   simp only [Int.toNat_natCast]
   have := qjj s _ _ _ i (show i < qbz s (place - 1) at_ (min 258 (s.size - at_)) by simp only at hi; omega)
   rw [show at_ - (at_ - (place - 1)) + i = place - 1 + i by omega]; exact this
theorem qjg (s : ByteArray) (at_ : Nat) (ha : at_ + 3 ≤ s.size) : ∀ (f place : Nat) (best : Tok), qfn s at_ place → qp6 s at_ best → qp6 s at_ (qjh s at_ (min 258 (s.size - at_)) f place best)
 | 0, place, best, _, hb => hb
 | f + 1, place, best, hp, hb => by
  rw [qjh]
  split
  · exact hb
  · rename_i h1
    split
    · exact hb
    · rename_i h2
      refine qjg s at_ ha f _ _ (qke hp (by omega)) ?_
      split
      · exact qro hp (by omega) ha h2
      · exact hb
theorem qe5 (s : ByteArray) (tries at_ : Nat) : qp6 s at_ (qbw s tries at_) := by
 unfold qbw
 split
 · exact .inl rfl
 · rename_i h
   exact qjg s at_ (by omega) _ _ _ (qq5 s at_) (.inl rfl)
def qcz (s : ByteArray) (lv at_ : Nat) : Tok :=
 if 0 < (qbw s (2 ^ lv) at_).l ∧ ¬ ((qbw s (2 ^ lv) at_).l < 4 * (lv : Int) ∧ (qbw s (2 ^ lv) at_).l < (qbw s (2 ^ lv) (at_ + 1)).l) then qbw s (2 ^ lv) at_ else ⟨byt s at_, 0, 0⟩
theorem qk3 (s : ByteArray) (lv at_ : Nat) (h : at_ < s.size) : qbr (qcz s lv at_) = true ∧ (qcz s lv at_).d ≤ (at_ : Int) ∧ (at_ : Int) + wid (qcz s lv at_) ≤ s.size ∧ (qcz s lv at_).b < 256 ∧ 0 ≤ (qcz s lv at_).l
    ∧ sayT ((nb s).take at_) (qcz s lv at_) = (nb s).take (at_ + (wid (qcz s lv at_)).toNat) := by
 unfold qcz
 split
 · rename_i hc
   rcases qe5 s (2 ^ lv) at_ with hz | ⟨g1, g2, g3, g4, g5, g6, g7, g8⟩
   · rw [hz] at hc; exact absurd hc.1 (by decide)
   · generalize qbw s (2 ^ lv) at_ = t at *
     have hw : wid t = t.l := by unfold wid; rw [if_pos (by omega)]
     refine ⟨qlx g1 g2 g3 g4 g5, g6, by rw [hw]; omega, by omega, by omega, ?_⟩
     rw [hw]
     unfold sayT
     rw [if_neg (by omega)]
     have key : ∀ k : Nat, (k : Int) ≤ t.l → sayN ((nb s).take at_) t.d.toNat k = (nb s).take (at_ + k) := by
      intro k
      induction k with
      | zero => intro _; rfl
      | succ k ih =>
       intro hk
       have ih := ih (by omega)
       rw [sayN, ih, ← Nat.add_assoc, qlq s (at_ + k) (by omega), List.length_take, qff, Nat.min_eq_left (by omega)]
       congr 2
       rw [List.getD_eq_getElem?_getD, List.getElem?_take, if_pos (by omega), q4k s _ (by omega)]
       have := g8 k (by omega)
       rw [show at_ + k - t.d.toNat = at_ - t.d.toNat + k by omega]
       exact this
     exact key t.l.toNat (by omega)
 · refine ⟨by unfold qbr; simp, by simp only; omega, by show (at_ : Int) + 1 ≤ _; omega, q4t _ _, by simp, ?_⟩
   show sayT _ ⟨byt s at_, 0, 0⟩ = (nb s).take (at_ + 1)
   rw [qlq s at_ h]; rfl
def tokK (s : ByteArray) (lv : Nat) : Nat → List Tok × Nat
 | 0 => ([], 0)
 | k + 1 => if (tokK s lv k).2 < s.size then ((tokK s lv k).1 ++ [qcz s lv (tokK s lv k).2], (tokK s lv k).2 + (wid (qcz s lv (tokK s lv k).2)).toNat) else tokK s lv k
theorem qh4 {s : ByteArray} {lv k : Nat} (h : (tokK s lv k).2 < s.size) : tokK s lv (k + 1) = ((tokK s lv k).1 ++ [qcz s lv (tokK s lv k).2], (tokK s lv k).2 + (wid (qcz s lv (tokK s lv k).2)).toNat) := by
 rw [tokK, if_pos h]
theorem qh5 {s : ByteArray} {lv k : Nat} (h : s.size ≤ (tokK s lv k).2) : ∀ j, tokK s lv (k + j) = tokK s lv k
 | 0 => rfl
 | j + 1 => by rw [← Nat.add_assoc, tokK, qh5 h j, if_neg (by omega)]
theorem qfs (s : ByteArray) (lv : Nat) : ∀ k, min k s.size ≤ (tokK s lv k).2 ∧ (tokK s lv k).2 ≤ s.size ∧ (tokK s lv k).1.length ≤ (tokK s lv k).2
 | 0 => ⟨by omega, Nat.zero_le _, Nat.le_refl _⟩
 | k + 1 => by
  obtain ⟨h1, h2, h3⟩ := qfs s lv k
  by_cases h : (tokK s lv k).2 < s.size
  · rw [qh4 h]
    have hw := qed (qcz s lv (tokK s lv k).2)
    have := (qk3 s lv _ h).2.2.1
    refine ⟨by simp only; omega, by simp only; omega, by simp only [List.length_append, List.length_singleton]; omega⟩
  · rw [tokK, if_neg h]; exact ⟨by omega, h2, h3⟩
theorem qx4 {s : ByteArray} {lv k : Nat} (h : s.size ≤ (tokK s lv k).2) : tokK s lv k = tokK s lv s.size := by
 rcases Nat.le_total k s.size with hk | hk
 · obtain ⟨j, hj⟩ := Nat.le.dest hk
   have e := qh5 h j
   rw [← e, hj]
 · obtain ⟨j, hj⟩ := Nat.le.dest hk
   have hf := (qfs s lv s.size).1
   rw [← hj]
   exact qh5 (by omega) j
def qxw (ts : List Tok) : Prop := ∀ t ∈ ts, qbr t = true ∧ t.b < 256
theorem qh6 (s : ByteArray) (lv : Nat) (most : Int) (hm : (s.size : Int) ≤ most) : ∀ k, expF most (tokK s lv k).1 [] = ((nb s).take (tokK s lv k).2, 0) ∧ qxw (tokK s lv k).1
 | 0 => ⟨rfl, fun t ht => by simp [tokK] at ht⟩
 | k + 1 => by
  obtain ⟨h1, h2⟩ := qh6 s lv most hm k
  by_cases h : (tokK s lv k).2 < s.size
  · rw [qh4 h]
    obtain ⟨a1, a2, a3, a4, a5, a6⟩ := qk3 s lv _ h
    refine ⟨?_, fun t ht => ?_⟩
    · simp only
      rw [← a6]
      refine qi8 most _ _ _ _ h1 (ql6 a1 ?_ ?_)
      · rw [List.length_take, qff, Nat.min_eq_left (by omega)]; exact a2
      · rw [List.length_take, qff, Nat.min_eq_left (by omega)]; omega
    · rcases List.mem_append.1 ht with ht | ht
      · exact h2 t ht
      · simp only [List.mem_singleton] at ht; subst ht; exact ⟨a1, a4⟩
  · rw [tokK, if_neg h]; exact ⟨h1, h2⟩
def tok0 (s : ByteArray) : List Tok := (nb s).map fun b => ⟨b, 0, 0⟩
theorem qcx (s : ByteArray) : (tok0 s).length = s.size := by unfold tok0; rw [List.length_map, qff]
theorem qh7 (s : ByteArray) (k : Nat) (h : k < s.size) : (tok0 s).take (k + 1) = (tok0 s).take k ++ [⟨byt s k, 0, 0⟩] := by
 unfold tok0; rw [← List.map_take, ← List.map_take, qlq s k h, List.map_append]; rfl
theorem qx5 (s : ByteArray) : qxw (tok0 s) := by
 intro t ht
 obtain ⟨b, hb, rfl⟩ := List.mem_map.1 ht
 obtain ⟨u, _, rfl⟩ := List.mem_map.1 hb
 exact ⟨by unfold qbr; simp, UInt8.toNat_lt u⟩
theorem qh8 (s : ByteArray) (most : Int) (hm : (s.size : Int) ≤ most) : ∀ k, k ≤ s.size → expF most ((tok0 s).take k) [] = ((nb s).take k, 0)
 | 0, _ => rfl
 | k + 1, h => by
  have ih := qh8 s most hm k (by omega)
  rw [qh7 s k (by omega), qlq s k (by omega)]
  refine qi8 most ⟨byt s k, 0, 0⟩ _ _ _ ih (ql6 (by unfold qbr; simp) (by simp only; omega) ?_)
  rw [List.length_take, qff, Nat.min_eq_left (by omega)]
  show (k : Int) + 1 ≤ most
  omega
def toks (s : ByteArray) (lv : Nat) : List Tok := if lv = 0 then tok0 s else (tokK s lv s.size).1
theorem qx3 (s : ByteArray) (lv : Nat) : qxw (toks s lv) := by
 unfold toks; split
 · exact qx5 s
 · exact (qh6 s lv s.size (Int.le_refl _) s.size).2
theorem qx2 (s : ByteArray) (lv : Nat) : (toks s lv).length ≤ s.size := by
 unfold toks; split
 · rw [qcx]; exact Nat.le_refl _
 · have := qfs s lv s.size; omega
theorem qh2 (s : ByteArray) (lv : Nat) (most : Int) (hm : (s.size : Int) ≤ most) : expF most (toks s lv) [] = (nb s, 0) := by
 unfold toks; split
 · have := qh8 s most hm s.size (Nat.le_refl _)
   rw [List.take_of_length_le (by rw [qcx]; exact Nat.le_refl _), List.take_of_length_le (by rw [qff]; exact Nat.le_refl _)] at this
   exact this
 · have h := (qh6 s lv most hm s.size).1
   have hf := (qfs s lv s.size).1
   rw [List.take_of_length_le (by rw [qff]; omega)] at h
   exact h
theorem Tryz.infoU8 : (Tryz.prog.info? 5).map (fun i => (i.zero, i.size, i.bytes)) = some (some (.int .u8 0), 1, 1) := by kernel_rfl
def putN (x n : Nat) : List Nat := (List.range n).map fun i => x / 256 ^ i % 256
theorem qdz (x n : Nat) : (putN x n).length = n := by simp [putN]
theorem qvj (x n : Nat) : putN x (n + 1) = putN x n ++ [x / 256 ^ n % 256] := by simp [putN, List.range_succ]
theorem qnu (x k : Nat) : x / 256 ^ k / 256 = x / 256 ^ (k + 1) := by rw [Nat.pow_succ, Nat.div_div_eq_div_mul]
theorem qtz (x k : Nat) (h : x < 18446744073709551616) : x / 256 ^ k < 18446744073709551616 := Nat.lt_of_le_of_lt (Nat.div_le_self _ _) h
theorem qo2 (x n : Int) (w : World) (hx0 : 0 ≤ x) (hx1 : x < 18446744073709551616) (hn : n ≤ 1099511627776) :
    Calls Tryz.prog 60 #[.int .u64 x, .int .i64 n] w fun e w' => e = .returned (.string (bs (putN x.toNat n.toNat))) ∧ Below w.heap.size w w' := by
 obtain ⟨x, rfl⟩ := Int.eq_ofNat_of_zero_le hx0
 rw [Int.toNat_natCast]
 have hx : x < 18446744073709551616 := by omega
 clear hx0 hx1
 obtain ⟨i0, hi, hz0, hz1, hz2⟩ := info_parts Tryz.infoU8
 go_enter Tryz.func60, Tryz.ntmps60
 go_wp2
 go_loopw [5, 0, 7] (fun v y i wr => ∃ k : Nat, (k : Int) ≤ max n 0 ∧ i = .int .i64 k ∧ y = .int .u64 (x / 256 ^ k : Nat) ∧ wr.ownsRow w.heap.size 5 1 v k (cs (putN x k)) ∧ Below w.heap.size w wr)
  (fun _ _ i _ => (max n 0 - intOf i).toNat)
 case atStart => exact ⟨0, by omega, rfl, by simp, World.ownsRow_nil _ _ _ _, Below.refl _ _⟩
 case round =>
  obtain ⟨k, hk, rfl, rfl, hown, hbel⟩ := hrel
  by_cases hlt : (k : Int) < n
  · have hl := qtz x k hx
    have HD : Hid (_ = _) := qnu x k
    have HS : Hid (_ = _) := qvj x k
    generalize x / 256 ^ k = y at *
    go_wp2_with (at_builtin; refine wpList_append_own _ rfl _ _ 54 rfl w.heap.size 5 i0 (.int .u8 0) 1 1 Tryz.underlying54 hi hz0 hz1 hz2 rfl (by decide) _ _ _ rfl (hown.alloc _) ⟨wr.heap.size, 0, none⟩ 1 1 [.int .u8 ((y : Int) % 256)] rfl rfl (cell_one_new _ _ _) ?c2 ?c3 ?c4 ?c5 ?_)
    case c2 => intro u hu; simp at hu; subst hu; rfl
    case c3 => unfold maxLen; omega
    case c4 => omega
    case c5 => have := hbel.size; simp; omega
    intro v' w1 hown' hgrow _
    have hb' := qg0 hbel (qfc hbel (Nat.le_refl _)) hown hgrow
    have ho' : w1.ownsRow w.heap.size 5 1 v' (k + 1) (cs (putN x (k + 1))) := by rw [HS.out, qpq]; exact hown'
    clear hown' hgrow hown hbel
    go_wp2
    go_roundw
    case rel => exact ⟨k + 1, by omega, by go_num, by rw [← HD.out]; rfl, ho', hb'⟩
    case measure => simp [intOf]; omega
  · have hc := ql9 (P := Tryz.prog) (dst := 9) Tryz.underlying54 Tryz.underlying5 Tryz.underlying9 hown
    have : n.toNat = k := by omega
    have HN : Hid (_ = _) := this
    clear hown this
    go_wp2
    go_ret
    refine ⟨?_, hbel⟩
    rw [HN.out]; rfl
end Go.Proofs.YthkppipdflmekaaGreat
