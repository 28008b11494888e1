/- Small facts of our own that all our contracts share: bytes that a call has gathered, made a string; what lies below. Worlds that grow but for one block. The plain mathematics of the cyclic sum's table: no program. Bits of texts and texts of bits, the lowest of each byte first: plain mathematics, no program. -/
import Derived.WalkKit
import Derived.WalkSpells
import Derived.WalkLawsBesides
import Derived.Handy
import Derived.Laws.BytesArg
import Derived.WalkSmall
import Derived.Laws.BitsAllLaws
namespace Go.Proofs.Ythkppipdflmekaa
open Go.RowKit

theorem bel_append {B : Nat} {w wr w1 : World} {e : TypeId} {sz n : Nat} {v : Value} {xs : List Value} {o : Obj} (hbel : Below B w wr) (hB : B ≤ wr.heap.size)
    (hown : wr.ownsRow B e sz v n xs) (hg : (wr.alloc o).grownBy w1 v.ownBlock) : Below B w w1 :=
  (hbel.alloc hB o).grown hg (by rw [World.size_alloc]; omega) fun k hk => (hown.lt k hk).1

theorem below_size {B : Nat} {w wr : World} (h : Below B w wr) (hB : B ≤ w.heap.size) : B ≤ wr.heap.size := Nat.le_trans hB h.size

theorem conv_own {P : Program} {w : World} {base : Nat} {src e dst : TypeId} {v : Value} {xs : List Int} {n : Nat} (hs : P.underlying src = some (.slice e)) (he : P.underlying e = some (.int .u8)) (hd : P.underlying dst = some .string)
    (h : w.ownsRow base e 1 v n (xs.map (Value.int .u8))) : (convert src dst v).run P w = .ok (.string (strOfNums xs)) w := by
  have h' := h
  obtain ⟨hl, h⟩ := h
  simp at hl
  rcases h with ⟨rfl, rfl⟩ | ⟨g, cap, cur, rfl, _⟩
  · obtain rfl : xs = [] := by simpa using hl
    exact run_convert_bytes_nil w src e hs he 0 0 dst hd
  · refine run_convert_bytes_arg w src e hs he g 0 n cap xs hl (fun i hi => ?_) dst hd
    have := h'.cellAt i (by omega)
    simp only [Nat.zero_add, this, List.getElem?_map, List.getD]
    rw [List.getElem?_eq_getElem (by omega)]
    rfl
/-- The text of these bytes. -/
def bs (l : List Nat) : ByteArray := strOfNums (l.map fun n : Nat => (n : Int))
/-- These bytes as the cells of a row. -/
def cs (l : List Nat) : List Value := l.map fun n : Nat => Value.int .u8 (n : Int)
theorem cs_eq (l : List Nat) : cs l = (l.map fun n : Nat => (n : Int)).map (Value.int .u8) := by simp [cs]
theorem cs_snoc (l : List Nat) (n : Nat) : cs (l ++ [n]) = cs l ++ [.int .u8 (n : Int)] := by simp [cs]
theorem cs_len (l : List Nat) : (cs l).length = l.length := by simp [cs]

theorem conv_bs {P : Program} {w : World} {base : Nat} {src e dst : TypeId} {v : Value} {l : List Nat} {n : Nat} (hs : P.underlying src = some (.slice e)) (he : P.underlying e = some (.int .u8)) (hd : P.underlying dst = some .string)
    (h : w.ownsRow base e 1 v n (cs l)) : (convert src dst v).run P w = .ok (.string (bs l)) w :=
  conv_own hs he hd (cs_eq l ▸ h)
/-- What a walk is told of a slice of integers that came in: it is nil; or it leads to a row of 'cap' cells, the numbers zs. -/
def IsRow (k : IntKind) (w : World) (a : Option Addr) (len cap : Nat) (zs : List Int) : Prop :=
  (a = none ∧ len = 0 ∧ cap = 0 ∧ zs = []) ∨
  ∃ x, a = some x ∧ len ≤ cap ∧ cap ≤ 140737488351232 ∧ zs.length = cap ∧ (∀ i, i < zs.length → w.cell? (x.add i) = some (.int k (zs.getD i 0))) ∧ ∀ n ∈ zs, (Lit.int k n).wf = true
/-- The same of a slice of strings. -/
def IsStrs (w : World) (a : Option Addr) (len cap : Nat) (ss : List ByteArray) : Prop :=
  (a = none ∧ len = 0 ∧ cap = 0 ∧ ss = []) ∨
  ∃ x, a = some x ∧ len ≤ cap ∧ cap ≤ maxLen ∧ ss.length = cap ∧ (∀ i, i < ss.length → w.cell? (x.add i) = some (.string (ss.getD i ByteArray.empty))) ∧ ∀ s ∈ ss, s.size ≤ maxLen
end Go.Proofs.Ythkppipdflmekaa
namespace Go.Proofs.Ythkppipdflmekaa
open Go.RowKit
set_option linter.unusedVariables false

theorem gtrans {a b c : World} {row : Option Nat} (h : a.grownBy b row) (k : b.grownBy c row) : a.grownBy c row :=
  ⟨k.os.trans h.os, k.tape.trans h.tape, k.output.trans h.output, Nat.le_trans h.size k.size, fun i hi hn => (k.block i (Nat.lt_of_lt_of_le hi h.size) hn).trans (h.block i hi hn)⟩
theorem grefl (w : World) (row : Option Nat) : w.grownBy w row := World.grownBy.refl w row
theorem gdrewN {a b : World} {row : Option Nat} (h : a.grownBy b row) (n : Nat) : a.grownBy (b.drewN n) row := ⟨h.os, h.tape, h.output, h.size, h.block⟩
theorem gdrew {a b : World} {row : Option Nat} (h : a.grownBy b row) : a.grownBy b.drew row := ⟨h.os, h.tape, h.output, h.size, h.block⟩
theorem gset {a b : World} {g : Nat} (h : a.grownBy b (some g)) (j : Nat) (v : Value) : a.grownBy (b.setCell ⟨g, j, none⟩ v) (some g) :=
  gtrans h ⟨rfl, rfl, rfl, by simp, fun k hk hne => heap_setCell_other _ _ _ _ (fun e => hne (by rw [e]))⟩
theorem galloc {a b : World} {row : Option Nat} (h : a.grownBy b row) (o : Obj) : a.grownBy (b.alloc o) row := gtrans h (World.grownBy_alloc b o row)
theorem gbelow {a b : World} {row : Option Nat} (h : Below a.heap.size a b) : a.grownBy b row := ⟨h.os, h.tape, h.output, h.size, fun k hk _ => h.block k hk⟩
theorem grown_below {B : Nat} {a b c : World} {g : Nat} (h : Below B a b) (k : b.grownBy c (some g)) (hB : B ≤ b.heap.size) (hg : B ≤ g) : Below B a c := h.grown k hB (fun j hj => by cases hj; exact hg)

end Go.Proofs.Ythkppipdflmekaa
namespace Go.Proofs.Ythkppipdflmekaa
set_option linter.unusedVariables false

/-- One bit's step. -/
def shf (c : Nat) : Nat := if c % 2 = 1 then (c / 2) ^^^ 3988292384 else c / 2
/-- Eight steps: a byte's entry of the table. -/
def ent (b : Nat) : Nat := shf (shf (shf (shf (shf (shf (shf (shf b)))))))
def cOf (m : Nat) : Nat := if m = 8 then 1 else ent (2 ^ m)

theorem shf_lt (c : Nat) (h : c < 4294967296) : shf c < 4294967296 := by
  unfold shf
  split
  · exact Nat.xor_lt_two_pow (n := 32) (by omega) (by decide)
  · omega
theorem ent_lt (b : Nat) (h : b < 4294967296) : ent b < 4294967296 := by
  unfold ent
  repeat apply shf_lt
  exact h
theorem cOf_lt (m : Nat) (h : m ≤ 8) : cOf m < 4294967296 := by
  unfold cOf
  split
  · decide
  · refine ent_lt _ (Nat.lt_of_lt_of_le (Nat.pow_lt_pow_right (by decide) (show m < 32 by omega)) (by decide))
theorem cOf_step : ∀ m : Fin 8, shf (cOf (m.val + 1)) = ent (2 ^ m.val) := by decide
theorem cOf_shf (m : Nat) (h : m < 8) : shf (cOf (m + 1)) = cOf m := by
  rw [cOf_step ⟨m, h⟩]; unfold cOf; rw [if_neg (by omega)]
theorem ent_add : ∀ m : Fin 8, ∀ i : Fin 128, 2 ^ (m.val + 1) * i.val < 256 → ent (2 ^ (m.val + 1) * i.val) ^^^ cOf m.val = ent (2 ^ (m.val + 1) * i.val + 2 ^ m.val) := by decide +kernel

/-- How far a byte's table has come: all entries at multiples of d. -/
def TabAt (d : Nat) (T : Nat → Nat) : Prop := ∀ j, j < 256 → j % d = 0 → T j = ent j
/-- Within a round: all at multiples of 2 d, and those below b at multiples of d. -/
def TabIn (d b : Nat) (T : Nat → Nat) : Prop := TabAt (2 * d) T ∧ ∀ j, j < b → j < 256 → j % d = 0 → T j = ent j
def upd (T : Nat → Nat) (i v : Nat) : Nat → Nat := fun j => if j = i then v else T j

theorem tabIn_zero (m : Nat) (T : Nat → Nat) (h : TabAt (2 ^ (m + 1)) T) : TabIn (2 ^ m) 0 T := by
  refine ⟨?_, fun j hj => by omega⟩
  rw [Nat.pow_succ, Nat.mul_comm] at h; exact h
theorem tabIn_end (m : Nat) (T : Nat → Nat) (h : TabIn (2 ^ m) 256 T) : TabAt (2 ^ m) T := fun j hj hd => h.2 j hj hj hd
theorem tabAt_start : TabAt (2 ^ 8) fun _ => 0 := by
  intro j hj hd
  obtain rfl : j = 0 := by simp at hd; omega
  decide
theorem tabIn_step (m i : Nat) (hm : m < 8) (T : Nat → Nat) (hb : 2 ^ (m + 1) * i < 256) (h : TabIn (2 ^ m) (2 ^ (m + 1) * i) T) :
    TabIn (2 ^ m) (2 ^ (m + 1) * (i + 1)) (upd T (2 ^ (m + 1) * i + 2 ^ m) (T (2 ^ (m + 1) * i) ^^^ cOf m)) := by
  have hi : i < 128 := by
    have : 2 ^ 1 ≤ 2 ^ (m + 1) := Nat.pow_le_pow_right (by decide) (by omega)
    have := Nat.mul_le_mul_right i this
    omega
  have e0 : T (2 ^ (m + 1) * i) = ent (2 ^ (m + 1) * i) := h.1 _ hb (by rw [Nat.pow_succ, Nat.mul_comm (2 ^ m) 2]; simp)
  have ea := ent_add ⟨m, hm⟩ ⟨i, hi⟩ hb
  simp only at ea
  have key : T (2 ^ (m + 1) * i) ^^^ cOf m = ent (2 ^ (m + 1) * i + 2 ^ m) := by rw [e0, ea]
  rw [key]
  obtain ⟨h1, h2⟩ := h
  clear ea key
  unfold TabIn TabAt upd at *
  refine ⟨fun j hj hd => ?_, fun j hjb hj hd => ?_⟩
  · by_cases hjx : j = 2 ^ (m + 1) * i + 2 ^ m
    · simp [hjx]
    · simp only [hjx, if_false]; exact h1 j hj hd
  · by_cases hjx : j = 2 ^ (m + 1) * i + 2 ^ m
    · simp [hjx]
    · simp only [hjx, if_false]
      by_cases hlt : j < 2 ^ (m + 1) * i
      · exact h2 j hlt hj hd
      · have : j = 2 ^ (m + 1) * i := by
          obtain ⟨q, rfl⟩ := Nat.dvd_of_mod_eq_zero hd
          have e1 : 2 ^ (m + 1) * i = 2 ^ m * (2 * i) := by rw [Nat.pow_succ, Nat.mul_assoc]
          have e2 : 2 ^ (m + 1) * (i + 1) = 2 ^ m * (2 * i + 2) := by rw [Nat.pow_succ, Nat.mul_assoc, Nat.mul_add]
          rw [e1] at hlt hjx ⊢
          rw [e2] at hjb
          have p : 0 < 2 ^ m := Nat.pow_pos (by decide)
          have a1 : q < 2 * i + 2 := Nat.lt_of_mul_lt_mul_left hjb
          have a2 : 2 * i ≤ q := Nat.le_of_mul_le_mul_left (Nat.le_of_not_lt hlt) p
          have a3 : q ≠ 2 * i + 1 := fun e => hjx (by rw [e, Nat.mul_add, Nat.mul_one])
          congr 1; omega
        rw [this] at *
        exact h1 _ hb (by rw [Nat.pow_succ, Nat.mul_comm (2 ^ m) 2]; simp)

/-- Two facts on powers that the walk asks. -/
theorem pow_room (m i : Nat) (hm : m < 8) (hb : 2 ^ (m + 1) * i < 256) : 2 ^ (m + 1) * i + 2 ^ m < 256 ∧ 2 ^ (m + 1) * (i + 1) ≤ 256 ∧ 2 ^ m ≤ 128 := by
  have h : 2 ^ (m + 1) * 2 ^ (7 - m) = 256 := by rw [← Nat.pow_add, show m + 1 + (7 - m) = 8 by omega]
  have p : 0 < 2 ^ (m + 1) := Nat.pow_pos (by decide)
  have a : i < 2 ^ (7 - m) := by
    rw [← h] at hb; exact Nat.lt_of_mul_lt_mul_left hb
  have b : 2 ^ (m + 1) * (i + 1) ≤ 256 := by rw [← h]; exact Nat.mul_le_mul_left _ a
  have c : 2 ^ m ≤ 2 ^ 7 := Nat.pow_le_pow_right (by decide) (by omega)
  have d : 0 < 2 ^ m := Nat.pow_pos (by decide)
  have e : 2 ^ (m + 1) = 2 ^ m * 2 := Nat.pow_succ ..
  refine ⟨?_, b, by omega⟩
  rw [Nat.mul_add, Nat.mul_one] at b
  omega
theorem pow_all (m i : Nat) (hm : m < 8) (h1 : ¬ 2 ^ (m + 1) * i < 256) (h2 : 2 ^ (m + 1) * i ≤ 256) : 2 ^ (m + 1) * i = 256 := by omega

theorem shf_u32 (c : Nat) (h : c < 4294967296) : Go.bits .xor .u32 ((c : Int) / 2) 3988292384 = (((c / 2) ^^^ 3988292384 : Nat) : Int) := Go.u32_xor_nat (c / 2) 3988292384 (by omega) (by decide)
theorem and1_u32 (c : Nat) (h : c < 4294967296) : Go.bits .and .u32 (c : Int) 1 = ((c % 2 : Nat) : Int) := by
  have := Go.u32_and_nat c 1 h (by decide)
  rw [Nat.and_one_is_mod] at this
  exact this
/-- A byte's step of the sum, and the sum of a text behind what has the sum c. -/
def crcStep (c b : Nat) : Nat := ent ((c % 256) ^^^ b) ^^^ (c / 256)
def crcF (c : Nat) (l : List UInt8) : Nat := l.foldl (fun c b => crcStep c b.toNat) c
def crcV (c : Nat) (l : List UInt8) : Nat := 4294967295 - crcF (4294967295 - c) l
theorem xor_byte (a b : Nat) (ha : a < 256) (hb : b < 256) : a ^^^ b < 256 := Nat.xor_lt_two_pow (n := 8) ha hb
theorem crcStep_lt (c b : Nat) (hc : c < 4294967296) (hb : b < 256) : crcStep c b < 4294967296 :=
  Nat.xor_lt_two_pow (n := 32) (ent_lt _ (by have := xor_byte (c % 256) b (by omega) hb; omega)) (by omega)
theorem crcF_lt : ∀ (l : List UInt8) (c : Nat), c < 4294967296 → crcF c l < 4294967296
  | [], c, h => h
  | b :: r, c, h => crcF_lt r _ (crcStep_lt c _ h b.toNat_lt)
theorem crcF_snoc (c : Nat) (l : List UInt8) (b : UInt8) : crcF c (l ++ [b]) = crcStep (crcF c l) b.toNat := by simp [crcF]
theorem crcF_append (c : Nat) (l r : List UInt8) : crcF c (l ++ r) = crcF (crcF c l) r := by simp [crcF]
theorem crcV_lt (c : Nat) (l : List UInt8) : crcV c l < 4294967296 := by unfold crcV; omega
theorem crcV_append (c : Nat) (l r : List UInt8) : crcV (crcV c l) r = crcV c (l ++ r) := by
  have := crcF_lt l (4294967295 - c) (by omega)
  unfold crcV
  rw [crcF_append, show 4294967295 - (4294967295 - crcF (4294967295 - c) l) = crcF (4294967295 - c) l by omega]
theorem crcV_nil (c : Nat) (h : c < 4294967296) : crcV c [] = c := by unfold crcV crcF; simp; omega
theorem take_snoc (s : ByteArray) (k : Nat) (h : k < s.size) : s.data.toList.take (k + 1) = s.data.toList.take k ++ [s[k]] := by
  rw [List.take_succ_eq_append_getElem (by simpa using h)]; rfl
end Go.Proofs.Ythkppipdflmekaa
namespace Go.Proofs.Ythkppipdflmekaa
open Go
set_option linter.unusedVariables false

/-- The number of the bits f 0 .. f (n - 1), the first one the lowest. -/
def takeN (f : Nat → Bool) : Nat → Nat
  | 0 => 0
  | n + 1 => takeN f n + (f n).toNat * 2 ^ n
/-- The same, the first one the highest. -/
def turnN (f : Nat → Bool) : Nat → Nat
  | 0 => 0
  | n + 1 => 2 * turnN f n + (f n).toNat
theorem takeN_lt (f : Nat → Bool) : ∀ n, takeN f n < 2 ^ n
  | 0 => by simp [takeN]
  | n + 1 => by
    have := takeN_lt f n
    rw [takeN, Nat.pow_succ]
    cases f n <;> simp <;> omega
theorem turnN_lt (f : Nat → Bool) : ∀ n, turnN f n < 2 ^ n
  | 0 => by simp [turnN]
  | n + 1 => by
    have := turnN_lt f n
    rw [turnN, Nat.pow_succ]
    cases f n <;> simp <;> omega
theorem takeN_congr {f g : Nat → Bool} : ∀ n, (∀ i, i < n → f i = g i) → takeN f n = takeN g n
  | 0, _ => rfl
  | n + 1, h => by rw [takeN, takeN, takeN_congr n (fun i hi => h i (by omega)), h n (by omega)]
theorem turnN_congr {f g : Nat → Bool} : ∀ n, (∀ i, i < n → f i = g i) → turnN f n = turnN g n
  | 0, _ => rfl
  | n + 1, h => by rw [turnN, turnN, turnN_congr n (fun i hi => h i (by omega)), h n (by omega)]
theorem takeN_lt32 (f : Nat → Bool) (n : Nat) (h : n ≤ 32) : takeN f n < 4294967296 :=
  Nat.lt_of_lt_of_le (takeN_lt f n) (Nat.pow_le_pow_right (n := 2) (i := n) (j := 32) (by decide) h)
theorem turnN_lt32 (f : Nat → Bool) (n : Nat) (h : n ≤ 32) : turnN f n < 4294967296 :=
  Nat.lt_of_lt_of_le (turnN_lt f n) (Nat.pow_le_pow_right (n := 2) (i := n) (j := 32) (by decide) h)
/-- One bit more, or-ed in. -/
theorem takeN_or (f : Nat → Bool) (n : Nat) : takeN f n ||| ((f n).toNat * 2 ^ n) = takeN f (n + 1) := by
  have h := takeN_lt f n
  rw [takeN, Nat.mul_comm, Nat.or_comm, ← Nat.two_pow_add_eq_or_of_lt h, Nat.add_comm]
theorem turnN_or (f : Nat → Bool) (n : Nat) : (2 * turnN f n) ||| (f n).toNat = turnN f (n + 1) := by
  have h : (f n).toNat < 2 ^ 1 := by cases f n <;> decide
  rw [turnN, show 2 * turnN f n = 2 ^ 1 * turnN f n by rw [Nat.pow_one], ← Nat.two_pow_add_eq_or_of_lt h]
theorem takeN_bit (f : Nat → Bool) : ∀ n j, (takeN f n).testBit j = (decide (j < n) && f j)
  | 0, j => by simp [takeN]
  | n + 1, j => by
    rw [← takeN_or, Nat.testBit_or, takeN_bit f n j]
    by_cases h : j = n
    · subst h
      cases f j <;> simp
    · have e : ((f n).toNat * 2 ^ n).testBit j = false := by
        cases f n
        · simp
        · simp [Nat.testBit_two_pow]; omega
      rw [e]
      simp [show (j < n + 1) = (j < n) by apply propext; omega]
theorem turnN_bit (f : Nat → Bool) : ∀ n j, (turnN f n).testBit j = (decide (j < n) && f (n - 1 - j))
  | 0, j => by simp [turnN]
  | n + 1, 0 => by
    rw [turnN, Nat.testBit_zero, Nat.mul_add_mod]
    cases h : f n <;> simp [h]
  | n + 1, j + 1 => by
    rw [Nat.testBit_succ, show turnN f (n + 1) / 2 = turnN f n by rw [turnN]; cases f n <;> simp <;> omega, turnN_bit f n j]
    rw [show n + 1 - 1 - (j + 1) = n - 1 - j by omega]
    simp
/-- Part of the document's turned number. -/
theorem turnN_part (f : Nat → Bool) (n m : Nat) (h : m < n) : turnN f m * 2 ^ (n - m) + (f m).toNat * 2 ^ (n - 1 - m) = turnN f (m + 1) * 2 ^ (n - (m + 1)) := by
  rw [turnN, show n - m = n - (m + 1) + 1 by omega, show n - 1 - m = n - (m + 1) by omega, Nat.pow_succ]
  generalize 2 ^ (n - (m + 1)) = p
  rw [Nat.add_mul]
  have : turnN f m * (p * 2) = 2 * turnN f m * p := by rw [Nat.mul_comm p 2, ← Nat.mul_assoc, Nat.mul_comm (turnN f m) 2]
  omega
theorem turnN_part_lt (f : Nat → Bool) (n m : Nat) (h : m ≤ n) : turnN f m * 2 ^ (n - m) < 2 ^ n := by
  have := turnN_lt f m
  calc turnN f m * 2 ^ (n - m) < 2 ^ m * 2 ^ (n - m) := Nat.mul_lt_mul_of_pos_right this (Nat.two_pow_pos _)
    _ = 2 ^ n := by rw [← Nat.pow_add]; congr 1; omega
/-- Bit i of a text. -/
def sbit (s : List UInt8) (i : Nat) : Bool := (s.getD (i / 8) 0).toNat.testBit (i % 8)
theorem sbit_past (s : List UInt8) (i : Nat) (h : 8 * s.length ≤ i) : sbit s i = false := by
  unfold sbit
  rw [List.getD_eq_getElem?_getD, List.getElem?_eq_none (by omega)]
  simp
/-- The text of bits. -/
def packB (L : List Bool) (j : Nat) : UInt8 := UInt8.ofNat (takeN (fun i => L.getD (8 * j + i) false) 8)
def packL (L : List Bool) : List UInt8 := (List.range ((L.length + 7) / 8)).map (packB L)
theorem packL_len (L : List Bool) : (packL L).length = (L.length + 7) / 8 := by simp [packL]
theorem packB_bit (L : List Bool) (j i : Nat) (hi : i < 8) : (packB L j).toNat.testBit i = L.getD (8 * j + i) false := by
  unfold packB
  rw [UInt8.toNat_ofNat', Nat.mod_eq_of_lt (takeN_lt _ 8), takeN_bit]
  simp [hi]
theorem packL_bit (L : List Bool) (i : Nat) : sbit (packL L) i = L.getD i false := by
  by_cases h : i / 8 < (L.length + 7) / 8
  · unfold sbit
    rw [List.getD_eq_getElem?_getD, packL, List.getElem?_map, List.getElem?_range h]
    simp only [Option.map_some, Option.getD_some]
    rw [packB_bit _ _ _ (Nat.mod_lt _ (by decide)), show 8 * (i / 8) + i % 8 = i by omega]
  · rw [sbit_past _ _ (by rw [packL_len]; omega), List.getD_eq_getElem?_getD, List.getElem?_eq_none (by omega)]
    rfl
/-- The n lowest bits of a number, the lowest first; the highest first. -/
def lowB (x n : Nat) : List Bool := (List.range n).map fun i => x.testBit i
def highB (x n : Nat) : List Bool := (List.range n).map fun i => x.testBit (n - 1 - i)
theorem lowB_len (x n : Nat) : (lowB x n).length = n := by simp [lowB]
theorem highB_len (x n : Nat) : (highB x n).length = n := by simp [highB]
theorem lowB_succ (x n : Nat) : lowB x (n + 1) = lowB x n ++ [x.testBit n] := by simp [lowB, List.range_succ]
theorem lowB_at (x n i : Nat) (h : i < n) : (lowB x n).getD i false = x.testBit i := by
  simp [lowB, List.getD_eq_getElem?_getD, List.getElem?_map, List.getElem?_range h]
theorem highB_at (x n i : Nat) (h : i < n) : (highB x n).getD i false = x.testBit (n - 1 - i) := by
  simp [highB, List.getD_eq_getElem?_getD, List.getElem?_map, List.getElem?_range h]
theorem takeN_low (x n : Nat) : takeN (fun i => x.testBit i) n = x % 2 ^ n := by
  apply Nat.eq_of_testBit_eq
  intro j
  rw [takeN_bit, Nat.testBit_mod_two_pow]
theorem turnN_high (x n : Nat) : turnN (fun i => x.testBit (n - 1 - i)) n = x % 2 ^ n := by
  apply Nat.eq_of_testBit_eq
  intro j
  rw [turnN_bit, Nat.testBit_mod_two_pow]
  by_cases h : j < n
  · simp [h, show n - 1 - (n - 1 - j) = j by omega]
  · simp [h]
/-- Noughts up to a whole byte. -/
def evenL (L : List Bool) : List Bool := L ++ List.replicate ((L.length + 7) / 8 * 8 - L.length) false
theorem evenL_len (L : List Bool) : (evenL L).length = (L.length + 7) / 8 * 8 := by simp [evenL]; omega
/-- A text's bits. -/
def rowOf (s : List UInt8) : List Bool := (List.range (8 * s.length)).map (sbit s)
theorem rowOf_len (s : List UInt8) : (rowOf s).length = 8 * s.length := by simp [rowOf]
theorem rowOf_at (s : List UInt8) (i : Nat) : (rowOf s).getD i false = sbit s i := by
  by_cases h : i < 8 * s.length
  · simp [rowOf, List.getD_eq_getElem?_getD, List.getElem?_map, List.getElem?_range h]
  · rw [sbit_past s i (by omega), List.getD_eq_getElem?_getD, List.getElem?_eq_none (by rw [rowOf_len]; omega)]; rfl
end Go.Proofs.Ythkppipdflmekaa
