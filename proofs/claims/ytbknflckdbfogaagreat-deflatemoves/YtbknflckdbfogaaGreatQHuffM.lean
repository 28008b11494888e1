/- Small facts of our own that all our contracts share: bytes that a call has gathered, made a string; what lies below. Worlds that grow but for one block. The plain mathematics of the cyclic sum's table: no program. Bits of texts and texts of bits, the lowest of each byte first: plain mathematics, no program. The plain mathematics of numbers in groups of seven bits: no program. Small facts on texts made of bytes, and on a row of one's own. Codes by their lengths: plain mathematics, no program. -/
import Derived.WalkKit
import Derived.WalkSpells
import Derived.WalkLawsBesides
import Derived.Handy
import Derived.Laws.BytesArg
import Derived.WalkSmall
import Derived.Laws.BitsAllLaws
import Derived.Laws.OwnMore
namespace Go.Proofs.YtbknflckdbfogaaGreat
open Go.RowKit

theorem bel_append {B : Nat} {w wr w1 : World} {e : TypeId} {sz n : Nat} {v : Value} {xs : List Value} {o : Obj} (hbel : Below B w wr) (hB : B ≤ wr.heap.size)
    (hown : wr.ownsRow B e sz v n xs) (hg : (wr.alloc o).grownBy w1 v.ownBlock) : Below B w w1 :=
  (hbel.alloc hB o).grown hg (by rw [World.size_alloc]; omega) fun k hk => (hown.lt k hk).1

theorem below_size {B : Nat} {w wr : World} (h : Below B w wr) (hB : B ≤ w.heap.size) : B ≤ wr.heap.size := Nat.le_trans hB h.size

theorem conv_own {P : Program} {w : World} {base : Nat} {src e dst : TypeId} {v : Value} {xs : List Int} {n : Nat} (hs : P.underlying src = some (.slice e)) (he : P.underlying e = some (.int .u8)) (hd : P.underlying dst = some .string)
    (h : w.ownsRow base e 1 v n (xs.map (Value.int .u8))) : (convert src dst v).run P w = .ok (.string (strOfNums xs)) w := by
  have h' := h
  obtain ⟨hl, h⟩ := h
  simp at hl
  rcases h with ⟨rfl, rfl⟩ | ⟨g, cap, cur, rfl, _⟩
  · obtain rfl : xs = [] := by simpa using hl
    exact run_convert_bytes_nil w src e hs he 0 0 dst hd
  · refine run_convert_bytes_arg w src e hs he g 0 n cap xs hl (fun i hi => ?_) dst hd
    have := h'.cellAt i (by omega)
    simp only [Nat.zero_add, this, List.getElem?_map, List.getD]
    rw [List.getElem?_eq_getElem (by omega)]
    rfl
/-- The text of these bytes. -/
def bs (l : List Nat) : ByteArray := strOfNums (l.map fun n : Nat => (n : Int))
/-- These bytes as the cells of a row. -/
def cs (l : List Nat) : List Value := l.map fun n : Nat => Value.int .u8 (n : Int)
theorem cs_eq (l : List Nat) : cs l = (l.map fun n : Nat => (n : Int)).map (Value.int .u8) := by simp [cs]
theorem cs_snoc (l : List Nat) (n : Nat) : cs (l ++ [n]) = cs l ++ [.int .u8 (n : Int)] := by simp [cs]
theorem cs_len (l : List Nat) : (cs l).length = l.length := by simp [cs]

theorem conv_bs {P : Program} {w : World} {base : Nat} {src e dst : TypeId} {v : Value} {l : List Nat} {n : Nat} (hs : P.underlying src = some (.slice e)) (he : P.underlying e = some (.int .u8)) (hd : P.underlying dst = some .string)
    (h : w.ownsRow base e 1 v n (cs l)) : (convert src dst v).run P w = .ok (.string (bs l)) w :=
  conv_own hs he hd (cs_eq l ▸ h)
/-- What a walk is told of a slice of integers that came in: it is nil; or it leads to a row of 'cap' cells, the numbers zs. -/
def IsRow (k : IntKind) (w : World) (a : Option Addr) (len cap : Nat) (zs : List Int) : Prop :=
  (a = none ∧ len = 0 ∧ cap = 0 ∧ zs = []) ∨
  ∃ x, a = some x ∧ len ≤ cap ∧ cap ≤ 140737488351232 ∧ zs.length = cap ∧ (∀ i, i < zs.length → w.cell? (x.add i) = some (.int k (zs.getD i 0))) ∧ ∀ n ∈ zs, (Lit.int k n).wf = true
/-- The same of a slice of strings. -/
def IsStrs (w : World) (a : Option Addr) (len cap : Nat) (ss : List ByteArray) : Prop :=
  (a = none ∧ len = 0 ∧ cap = 0 ∧ ss = []) ∨
  ∃ x, a = some x ∧ len ≤ cap ∧ cap ≤ maxLen ∧ ss.length = cap ∧ (∀ i, i < ss.length → w.cell? (x.add i) = some (.string (ss.getD i ByteArray.empty))) ∧ ∀ s ∈ ss, s.size ≤ maxLen
end Go.Proofs.YtbknflckdbfogaaGreat
namespace Go.Proofs.YtbknflckdbfogaaGreat
open Go.RowKit
set_option linter.unusedVariables false

theorem gtrans {a b c : World} {row : Option Nat} (h : a.grownBy b row) (k : b.grownBy c row) : a.grownBy c row :=
  ⟨k.os.trans h.os, k.tape.trans h.tape, k.output.trans h.output, Nat.le_trans h.size k.size, fun i hi hn => (k.block i (Nat.lt_of_lt_of_le hi h.size) hn).trans (h.block i hi hn)⟩
theorem grefl (w : World) (row : Option Nat) : w.grownBy w row := World.grownBy.refl w row
theorem gdrewN {a b : World} {row : Option Nat} (h : a.grownBy b row) (n : Nat) : a.grownBy (b.drewN n) row := ⟨h.os, h.tape, h.output, h.size, h.block⟩
theorem gdrew {a b : World} {row : Option Nat} (h : a.grownBy b row) : a.grownBy b.drew row := ⟨h.os, h.tape, h.output, h.size, h.block⟩
theorem gset {a b : World} {g : Nat} (h : a.grownBy b (some g)) (j : Nat) (v : Value) : a.grownBy (b.setCell ⟨g, j, none⟩ v) (some g) :=
  gtrans h ⟨rfl, rfl, rfl, by simp, fun k hk hne => heap_setCell_other _ _ _ _ (fun e => hne (by rw [e]))⟩
theorem galloc {a b : World} {row : Option Nat} (h : a.grownBy b row) (o : Obj) : a.grownBy (b.alloc o) row := gtrans h (World.grownBy_alloc b o row)
theorem gbelow {a b : World} {row : Option Nat} (h : Below a.heap.size a b) : a.grownBy b row := ⟨h.os, h.tape, h.output, h.size, fun k hk _ => h.block k hk⟩
theorem grown_below {B : Nat} {a b c : World} {g : Nat} (h : Below B a b) (k : b.grownBy c (some g)) (hB : B ≤ b.heap.size) (hg : B ≤ g) : Below B a c := h.grown k hB (fun j hj => by cases hj; exact hg)

end Go.Proofs.YtbknflckdbfogaaGreat
namespace Go.Proofs.YtbknflckdbfogaaGreat
set_option linter.unusedVariables false

/-- One bit's step. -/
def shf (c : Nat) : Nat := if c % 2 = 1 then (c / 2) ^^^ 3988292384 else c / 2
/-- Eight steps: a byte's entry of the table. -/
def ent (b : Nat) : Nat := shf (shf (shf (shf (shf (shf (shf (shf b)))))))
def cOf (m : Nat) : Nat := if m = 8 then 1 else ent (2 ^ m)

theorem shf_lt (c : Nat) (h : c < 4294967296) : shf c < 4294967296 := by
  unfold shf
  split
  · exact Nat.xor_lt_two_pow (n := 32) (by omega) (by decide)
  · omega
theorem ent_lt (b : Nat) (h : b < 4294967296) : ent b < 4294967296 := by
  unfold ent
  repeat apply shf_lt
  exact h
theorem cOf_lt (m : Nat) (h : m ≤ 8) : cOf m < 4294967296 := by
  unfold cOf
  split
  · decide
  · refine ent_lt _ (Nat.lt_of_lt_of_le (Nat.pow_lt_pow_right (by decide) (show m < 32 by omega)) (by decide))
theorem cOf_step : ∀ m : Fin 8, shf (cOf (m.val + 1)) = ent (2 ^ m.val) := by decide
theorem cOf_shf (m : Nat) (h : m < 8) : shf (cOf (m + 1)) = cOf m := by
  rw [cOf_step ⟨m, h⟩]; unfold cOf; rw [if_neg (by omega)]
theorem ent_add : ∀ m : Fin 8, ∀ i : Fin 128, 2 ^ (m.val + 1) * i.val < 256 → ent (2 ^ (m.val + 1) * i.val) ^^^ cOf m.val = ent (2 ^ (m.val + 1) * i.val + 2 ^ m.val) := by decide +kernel

/-- How far a byte's table has come: all entries at multiples of d. -/
def TabAt (d : Nat) (T : Nat → Nat) : Prop := ∀ j, j < 256 → j % d = 0 → T j = ent j
/-- Within a round: all at multiples of 2 d, and those below b at multiples of d. -/
def TabIn (d b : Nat) (T : Nat → Nat) : Prop := TabAt (2 * d) T ∧ ∀ j, j < b → j < 256 → j % d = 0 → T j = ent j
def upd (T : Nat → Nat) (i v : Nat) : Nat → Nat := fun j => if j = i then v else T j

theorem tabIn_zero (m : Nat) (T : Nat → Nat) (h : TabAt (2 ^ (m + 1)) T) : TabIn (2 ^ m) 0 T := by
  refine ⟨?_, fun j hj => by omega⟩
  rw [Nat.pow_succ, Nat.mul_comm] at h; exact h
theorem tabIn_end (m : Nat) (T : Nat → Nat) (h : TabIn (2 ^ m) 256 T) : TabAt (2 ^ m) T := fun j hj hd => h.2 j hj hj hd
theorem tabAt_start : TabAt (2 ^ 8) fun _ => 0 := by
  intro j hj hd
  obtain rfl : j = 0 := by simp at hd; omega
  decide
theorem tabIn_step (m i : Nat) (hm : m < 8) (T : Nat → Nat) (hb : 2 ^ (m + 1) * i < 256) (h : TabIn (2 ^ m) (2 ^ (m + 1) * i) T) :
    TabIn (2 ^ m) (2 ^ (m + 1) * (i + 1)) (upd T (2 ^ (m + 1) * i + 2 ^ m) (T (2 ^ (m + 1) * i) ^^^ cOf m)) := by
  have hi : i < 128 := by
    have : 2 ^ 1 ≤ 2 ^ (m + 1) := Nat.pow_le_pow_right (by decide) (by omega)
    have := Nat.mul_le_mul_right i this
    omega
  have e0 : T (2 ^ (m + 1) * i) = ent (2 ^ (m + 1) * i) := h.1 _ hb (by rw [Nat.pow_succ, Nat.mul_comm (2 ^ m) 2]; simp)
  have ea := ent_add ⟨m, hm⟩ ⟨i, hi⟩ hb
  simp only at ea
  have key : T (2 ^ (m + 1) * i) ^^^ cOf m = ent (2 ^ (m + 1) * i + 2 ^ m) := by rw [e0, ea]
  rw [key]
  obtain ⟨h1, h2⟩ := h
  clear ea key
  unfold TabIn TabAt upd at *
  refine ⟨fun j hj hd => ?_, fun j hjb hj hd => ?_⟩
  · by_cases hjx : j = 2 ^ (m + 1) * i + 2 ^ m
    · simp [hjx]
    · simp only [hjx, if_false]; exact h1 j hj hd
  · by_cases hjx : j = 2 ^ (m + 1) * i + 2 ^ m
    · simp [hjx]
    · simp only [hjx, if_false]
      by_cases hlt : j < 2 ^ (m + 1) * i
      · exact h2 j hlt hj hd
      · have : j = 2 ^ (m + 1) * i := by
          obtain ⟨q, rfl⟩ := Nat.dvd_of_mod_eq_zero hd
          have e1 : 2 ^ (m + 1) * i = 2 ^ m * (2 * i) := by rw [Nat.pow_succ, Nat.mul_assoc]
          have e2 : 2 ^ (m + 1) * (i + 1) = 2 ^ m * (2 * i + 2) := by rw [Nat.pow_succ, Nat.mul_assoc, Nat.mul_add]
          rw [e1] at hlt hjx ⊢
          rw [e2] at hjb
          have p : 0 < 2 ^ m := Nat.pow_pos (by decide)
          have a1 : q < 2 * i + 2 := Nat.lt_of_mul_lt_mul_left hjb
          have a2 : 2 * i ≤ q := Nat.le_of_mul_le_mul_left (Nat.le_of_not_lt hlt) p
          have a3 : q ≠ 2 * i + 1 := fun e => hjx (by rw [e, Nat.mul_add, Nat.mul_one])
          congr 1; omega
        rw [this] at *
        exact h1 _ hb (by rw [Nat.pow_succ, Nat.mul_comm (2 ^ m) 2]; simp)

/-- Two facts on powers that the walk asks. -/
theorem pow_room (m i : Nat) (hm : m < 8) (hb : 2 ^ (m + 1) * i < 256) : 2 ^ (m + 1) * i + 2 ^ m < 256 ∧ 2 ^ (m + 1) * (i + 1) ≤ 256 ∧ 2 ^ m ≤ 128 := by
  have h : 2 ^ (m + 1) * 2 ^ (7 - m) = 256 := by rw [← Nat.pow_add, show m + 1 + (7 - m) = 8 by omega]
  have p : 0 < 2 ^ (m + 1) := Nat.pow_pos (by decide)
  have a : i < 2 ^ (7 - m) := by
    rw [← h] at hb; exact Nat.lt_of_mul_lt_mul_left hb
  have b : 2 ^ (m + 1) * (i + 1) ≤ 256 := by rw [← h]; exact Nat.mul_le_mul_left _ a
  have c : 2 ^ m ≤ 2 ^ 7 := Nat.pow_le_pow_right (by decide) (by omega)
  have d : 0 < 2 ^ m := Nat.pow_pos (by decide)
  have e : 2 ^ (m + 1) = 2 ^ m * 2 := Nat.pow_succ ..
  refine ⟨?_, b, by omega⟩
  rw [Nat.mul_add, Nat.mul_one] at b
  omega
theorem pow_all (m i : Nat) (hm : m < 8) (h1 : ¬ 2 ^ (m + 1) * i < 256) (h2 : 2 ^ (m + 1) * i ≤ 256) : 2 ^ (m + 1) * i = 256 := by omega

theorem shf_u32 (c : Nat) (h : c < 4294967296) : Go.bits .xor .u32 ((c : Int) / 2) 3988292384 = (((c / 2) ^^^ 3988292384 : Nat) : Int) := Go.u32_xor_nat (c / 2) 3988292384 (by omega) (by decide)
theorem and1_u32 (c : Nat) (h : c < 4294967296) : Go.bits .and .u32 (c : Int) 1 = ((c % 2 : Nat) : Int) := by
  have := Go.u32_and_nat c 1 h (by decide)
  rw [Nat.and_one_is_mod] at this
  exact this
/-- A byte's step of the sum, and the sum of a text behind what has the sum c. -/
def crcStep (c b : Nat) : Nat := ent ((c % 256) ^^^ b) ^^^ (c / 256)
def crcF (c : Nat) (l : List UInt8) : Nat := l.foldl (fun c b => crcStep c b.toNat) c
def crcV (c : Nat) (l : List UInt8) : Nat := 4294967295 - crcF (4294967295 - c) l
theorem xor_byte (a b : Nat) (ha : a < 256) (hb : b < 256) : a ^^^ b < 256 := Nat.xor_lt_two_pow (n := 8) ha hb
theorem crcStep_lt (c b : Nat) (hc : c < 4294967296) (hb : b < 256) : crcStep c b < 4294967296 :=
  Nat.xor_lt_two_pow (n := 32) (ent_lt _ (by have := xor_byte (c % 256) b (by omega) hb; omega)) (by omega)
theorem crcF_lt : ∀ (l : List UInt8) (c : Nat), c < 4294967296 → crcF c l < 4294967296
  | [], c, h => h
  | b :: r, c, h => crcF_lt r _ (crcStep_lt c _ h b.toNat_lt)
theorem crcF_snoc (c : Nat) (l : List UInt8) (b : UInt8) : crcF c (l ++ [b]) = crcStep (crcF c l) b.toNat := by simp [crcF]
theorem crcF_append (c : Nat) (l r : List UInt8) : crcF c (l ++ r) = crcF (crcF c l) r := by simp [crcF]
theorem crcV_lt (c : Nat) (l : List UInt8) : crcV c l < 4294967296 := by unfold crcV; omega
theorem crcV_append (c : Nat) (l r : List UInt8) : crcV (crcV c l) r = crcV c (l ++ r) := by
  have := crcF_lt l (4294967295 - c) (by omega)
  unfold crcV
  rw [crcF_append, show 4294967295 - (4294967295 - crcF (4294967295 - c) l) = crcF (4294967295 - c) l by omega]
theorem crcV_nil (c : Nat) (h : c < 4294967296) : crcV c [] = c := by unfold crcV crcF; simp; omega
theorem take_snoc (s : ByteArray) (k : Nat) (h : k < s.size) : s.data.toList.take (k + 1) = s.data.toList.take k ++ [s[k]] := by
  rw [List.take_succ_eq_append_getElem (by simpa using h)]; rfl
end Go.Proofs.YtbknflckdbfogaaGreat
namespace Go.Proofs.YtbknflckdbfogaaGreat
open Go
set_option linter.unusedVariables false

/-- The number of the bits f 0 .. f (n - 1), the first one the lowest. -/
def takeN (f : Nat → Bool) : Nat → Nat
  | 0 => 0
  | n + 1 => takeN f n + (f n).toNat * 2 ^ n
/-- The same, the first one the highest. -/
def turnN (f : Nat → Bool) : Nat → Nat
  | 0 => 0
  | n + 1 => 2 * turnN f n + (f n).toNat
theorem takeN_lt (f : Nat → Bool) : ∀ n, takeN f n < 2 ^ n
  | 0 => by simp [takeN]
  | n + 1 => by
    have := takeN_lt f n
    rw [takeN, Nat.pow_succ]
    cases f n <;> simp <;> omega
theorem turnN_lt (f : Nat → Bool) : ∀ n, turnN f n < 2 ^ n
  | 0 => by simp [turnN]
  | n + 1 => by
    have := turnN_lt f n
    rw [turnN, Nat.pow_succ]
    cases f n <;> simp <;> omega
theorem takeN_congr {f g : Nat → Bool} : ∀ n, (∀ i, i < n → f i = g i) → takeN f n = takeN g n
  | 0, _ => rfl
  | n + 1, h => by rw [takeN, takeN, takeN_congr n (fun i hi => h i (by omega)), h n (by omega)]
theorem turnN_congr {f g : Nat → Bool} : ∀ n, (∀ i, i < n → f i = g i) → turnN f n = turnN g n
  | 0, _ => rfl
  | n + 1, h => by rw [turnN, turnN, turnN_congr n (fun i hi => h i (by omega)), h n (by omega)]
theorem takeN_lt32 (f : Nat → Bool) (n : Nat) (h : n ≤ 32) : takeN f n < 4294967296 :=
  Nat.lt_of_lt_of_le (takeN_lt f n) (Nat.pow_le_pow_right (n := 2) (i := n) (j := 32) (by decide) h)
theorem turnN_lt32 (f : Nat → Bool) (n : Nat) (h : n ≤ 32) : turnN f n < 4294967296 :=
  Nat.lt_of_lt_of_le (turnN_lt f n) (Nat.pow_le_pow_right (n := 2) (i := n) (j := 32) (by decide) h)
/-- One bit more, or-ed in. -/
theorem takeN_or (f : Nat → Bool) (n : Nat) : takeN f n ||| ((f n).toNat * 2 ^ n) = takeN f (n + 1) := by
  have h := takeN_lt f n
  rw [takeN, Nat.mul_comm, Nat.or_comm, ← Nat.two_pow_add_eq_or_of_lt h, Nat.add_comm]
theorem turnN_or (f : Nat → Bool) (n : Nat) : (2 * turnN f n) ||| (f n).toNat = turnN f (n + 1) := by
  have h : (f n).toNat < 2 ^ 1 := by cases f n <;> decide
  rw [turnN, show 2 * turnN f n = 2 ^ 1 * turnN f n by rw [Nat.pow_one], ← Nat.two_pow_add_eq_or_of_lt h]
theorem takeN_bit (f : Nat → Bool) : ∀ n j, (takeN f n).testBit j = (decide (j < n) && f j)
  | 0, j => by simp [takeN]
  | n + 1, j => by
    rw [← takeN_or, Nat.testBit_or, takeN_bit f n j]
    by_cases h : j = n
    · subst h
      cases f j <;> simp
    · have e : ((f n).toNat * 2 ^ n).testBit j = false := by
        cases f n
        · simp
        · simp [Nat.testBit_two_pow]; omega
      rw [e]
      simp [show (j < n + 1) = (j < n) by apply propext; omega]
theorem turnN_bit (f : Nat → Bool) : ∀ n j, (turnN f n).testBit j = (decide (j < n) && f (n - 1 - j))
  | 0, j => by simp [turnN]
  | n + 1, 0 => by
    rw [turnN, Nat.testBit_zero, Nat.mul_add_mod]
    cases h : f n <;> simp [h]
  | n + 1, j + 1 => by
    rw [Nat.testBit_succ, show turnN f (n + 1) / 2 = turnN f n by rw [turnN]; cases f n <;> simp <;> omega, turnN_bit f n j]
    rw [show n + 1 - 1 - (j + 1) = n - 1 - j by omega]
    simp
/-- Part of the document's turned number. -/
theorem turnN_part (f : Nat → Bool) (n m : Nat) (h : m < n) : turnN f m * 2 ^ (n - m) + (f m).toNat * 2 ^ (n - 1 - m) = turnN f (m + 1) * 2 ^ (n - (m + 1)) := by
  rw [turnN, show n - m = n - (m + 1) + 1 by omega, show n - 1 - m = n - (m + 1) by omega, Nat.pow_succ]
  generalize 2 ^ (n - (m + 1)) = p
  rw [Nat.add_mul]
  have : turnN f m * (p * 2) = 2 * turnN f m * p := by rw [Nat.mul_comm p 2, ← Nat.mul_assoc, Nat.mul_comm (turnN f m) 2]
  omega
theorem turnN_part_lt (f : Nat → Bool) (n m : Nat) (h : m ≤ n) : turnN f m * 2 ^ (n - m) < 2 ^ n := by
  have := turnN_lt f m
  calc turnN f m * 2 ^ (n - m) < 2 ^ m * 2 ^ (n - m) := Nat.mul_lt_mul_of_pos_right this (Nat.two_pow_pos _)
    _ = 2 ^ n := by rw [← Nat.pow_add]; congr 1; omega
/-- Bit i of a text. -/
def sbit (s : List UInt8) (i : Nat) : Bool := (s.getD (i / 8) 0).toNat.testBit (i % 8)
theorem sbit_past (s : List UInt8) (i : Nat) (h : 8 * s.length ≤ i) : sbit s i = false := by
  unfold sbit
  rw [List.getD_eq_getElem?_getD, List.getElem?_eq_none (by omega)]
  simp
/-- The text of bits. -/
def packB (L : List Bool) (j : Nat) : UInt8 := UInt8.ofNat (takeN (fun i => L.getD (8 * j + i) false) 8)
def packL (L : List Bool) : List UInt8 := (List.range ((L.length + 7) / 8)).map (packB L)
theorem packL_len (L : List Bool) : (packL L).length = (L.length + 7) / 8 := by simp [packL]
theorem packB_bit (L : List Bool) (j i : Nat) (hi : i < 8) : (packB L j).toNat.testBit i = L.getD (8 * j + i) false := by
  unfold packB
  rw [UInt8.toNat_ofNat', Nat.mod_eq_of_lt (takeN_lt _ 8), takeN_bit]
  simp [hi]
theorem packL_bit (L : List Bool) (i : Nat) : sbit (packL L) i = L.getD i false := by
  by_cases h : i / 8 < (L.length + 7) / 8
  · unfold sbit
    rw [List.getD_eq_getElem?_getD, packL, List.getElem?_map, List.getElem?_range h]
    simp only [Option.map_some, Option.getD_some]
    rw [packB_bit _ _ _ (Nat.mod_lt _ (by decide)), show 8 * (i / 8) + i % 8 = i by omega]
  · rw [sbit_past _ _ (by rw [packL_len]; omega), List.getD_eq_getElem?_getD, List.getElem?_eq_none (by omega)]
    rfl
/-- The n lowest bits of a number, the lowest first; the highest first. -/
def lowB (x n : Nat) : List Bool := (List.range n).map fun i => x.testBit i
def highB (x n : Nat) : List Bool := (List.range n).map fun i => x.testBit (n - 1 - i)
theorem lowB_len (x n : Nat) : (lowB x n).length = n := by simp [lowB]
theorem highB_len (x n : Nat) : (highB x n).length = n := by simp [highB]
theorem lowB_succ (x n : Nat) : lowB x (n + 1) = lowB x n ++ [x.testBit n] := by simp [lowB, List.range_succ]
theorem lowB_at (x n i : Nat) (h : i < n) : (lowB x n).getD i false = x.testBit i := by
  simp [lowB, List.getD_eq_getElem?_getD, List.getElem?_map, List.getElem?_range h]
theorem highB_at (x n i : Nat) (h : i < n) : (highB x n).getD i false = x.testBit (n - 1 - i) := by
  simp [highB, List.getD_eq_getElem?_getD, List.getElem?_map, List.getElem?_range h]
theorem takeN_low (x n : Nat) : takeN (fun i => x.testBit i) n = x % 2 ^ n := by
  apply Nat.eq_of_testBit_eq
  intro j
  rw [takeN_bit, Nat.testBit_mod_two_pow]
theorem turnN_high (x n : Nat) : turnN (fun i => x.testBit (n - 1 - i)) n = x % 2 ^ n := by
  apply Nat.eq_of_testBit_eq
  intro j
  rw [turnN_bit, Nat.testBit_mod_two_pow]
  by_cases h : j < n
  · simp [h, show n - 1 - (n - 1 - j) = j by omega]
  · simp [h]
/-- Noughts up to a whole byte. -/
def evenL (L : List Bool) : List Bool := L ++ List.replicate ((L.length + 7) / 8 * 8 - L.length) false
theorem evenL_len (L : List Bool) : (evenL L).length = (L.length + 7) / 8 * 8 := by simp [evenL]; omega
/-- A text's bits. -/
def rowOf (s : List UInt8) : List Bool := (List.range (8 * s.length)).map (sbit s)
theorem rowOf_len (s : List UInt8) : (rowOf s).length = 8 * s.length := by simp [rowOf]
theorem rowOf_at (s : List UInt8) (i : Nat) : (rowOf s).getD i false = sbit s i := by
  by_cases h : i < 8 * s.length
  · simp [rowOf, List.getD_eq_getElem?_getD, List.getElem?_map, List.getElem?_range h]
  · rw [sbit_past s i (by omega), List.getD_eq_getElem?_getD, List.getElem?_eq_none (by rw [rowOf_len]; omega)]; rfl
end Go.Proofs.YtbknflckdbfogaaGreat
namespace Go.Proofs.YtbknflckdbfogaaGreat
set_option linter.unusedVariables false

/-- A number in groups of seven bits, the lowest first. -/
def varN (x : Nat) : List Nat := if h : x < 128 then [x] else (x % 128 + 128) :: varN (x / 128)
  termination_by x
theorem varN_small {x : Nat} (h : x < 128) : varN x = [x] := by rw [varN, dif_pos h]
theorem varN_big {x : Nat} (h : 128 ≤ x) : varN x = (x % 128 + 128) :: varN (x / 128) := by rw [varN, dif_neg (by omega)]
theorem varN_len : ∀ (k x : Nat), x < 128 ^ (k + 1) → (varN x).length ≤ k + 1
  | 0, x, h => by rw [varN_small (by simpa using h)]; simp
  | k + 1, x, h => by
    by_cases hx : x < 128
    · rw [varN_small hx]; simp
    · rw [varN_big (by omega)]
      have := varN_len k (x / 128) (by rw [Nat.pow_succ] at h; omega)
      simp; omega
theorem varN_len64 {x : Nat} (h : x < 18446744073709551616) : (varN x).length ≤ 10 := varN_len 9 x (Nat.lt_of_lt_of_le h (by decide))
theorem varN_pos (x : Nat) : 1 ≤ (varN x).length := by
  by_cases hx : x < 128
  · rw [varN_small hx]; simp
  · rw [varN_big (by omega)]; simp
theorem varN_byte : ∀ (x : Nat), ∀ b ∈ varN x, b < 256 := by
  intro x
  induction x using Nat.strongRecOn with
  | _ x ih =>
    intro b hb
    by_cases hx : x < 128
    · rw [varN_small hx] at hb; simp at hb; omega
    · rw [varN_big (by omega)] at hb
      rcases List.mem_cons.1 hb with rfl | hb
      · omega
      · exact ih (x / 128) (by omega) b hb

/-- What the loop of Var has gathered, and what is left. -/
def VarPre (x0 y : Nat) (pre : List Nat) : Prop := pre ++ varN y = varN x0
theorem varPre_start (x : Nat) : VarPre x x [] := rfl
theorem varPre_step {x0 y : Nat} {pre : List Nat} (h : VarPre x0 y pre) (hy : 128 ≤ y) : VarPre x0 (y / 128) (pre ++ [y % 128 + 128]) := by
  unfold VarPre at *; rw [← h, varN_big hy]; simp
theorem varPre_end {x0 y : Nat} {pre : List Nat} (h : VarPre x0 y pre) (hy : y < 128) : pre ++ [y] = varN x0 := by
  unfold VarPre at *; rw [← h, varN_small hy]
theorem varPre_len {x0 y : Nat} {pre : List Nat} (h : VarPre x0 y pre) (hx : x0 < 18446744073709551616) : pre.length ≤ 9 := by
  have a := varN_len64 hx
  have b := varN_pos y
  unfold VarPre at h
  rw [← h] at a; simp at a; omega
theorem or128 (y : Nat) : Go.bits .or .u8 ((y : Int) % 256) 128 = ((y % 128 + 128 : Nat) : Int) := by
  have h : ∀ a : Fin 256, (a.val ||| 128) = a.val % 128 + 128 := by decide +kernel
  have e : Go.bits .or .u8 ((y : Int) % 256) 128 = ((y % 256 ||| 128 : Nat) : Int) := Go.u8_or_nat (y % 256) 128 (by omega) (by decide)
  rw [e, h ⟨y % 256, by omega⟩]; simp only; omega
/-- 'a | b', where a lies below 2^i and b is a multiple of it. -/
theorem or_join (a b i : Nat) (ha : a < 2 ^ i) (hl : a < 18446744073709551616) (hb : b * 2 ^ i < 18446744073709551616) : Go.bits .or .u64 (a : Int) ((b * 2 ^ i : Nat) : Int) = ((a + b * 2 ^ i : Nat) : Int) := by
  rw [Go.u64_or_nat a _ hl hb, Nat.or_comm, Nat.mul_comm, ← Nat.two_pow_add_eq_or_of_lt ha, Nat.add_comm]
/-- Groups read: the bytes that are left, how many were read, what they say. (0, 0): there is no number. -/
def uv : List UInt8 → Nat → Nat → Nat × Nat
  | [], _, _ => (0, 0)
  | b :: r, i, acc => if i = 9 ∧ 1 < b.toNat then (0, 0) else if 128 ≤ b.toNat then uv r (i + 1) (acc + b.toNat % 128 * 128 ^ i) else if b.toNat = 0 ∧ 0 < i then (0, 0) else (acc + b.toNat % 128 * 128 ^ i, i + 1)
theorem uv_nil (i acc : Nat) : uv [] i acc = (0, 0) := rfl
theorem uv_wide (b : UInt8) (r : List UInt8) (i acc : Nat) (h : i = 9) (hb : 1 < b.toNat) : uv (b :: r) i acc = (0, 0) := by rw [uv, if_pos ⟨h, hb⟩]
theorem uv_more (b : UInt8) (r : List UInt8) (i acc : Nat) (h : i ≠ 9) (hb : 128 ≤ b.toNat) : uv (b :: r) i acc = uv r (i + 1) (acc + b.toNat % 128 * 128 ^ i) := by
  rw [uv, if_neg (by omega), if_pos hb]
theorem uv_nought (b : UInt8) (r : List UInt8) (i acc : Nat) (hb : b.toNat = 0) (h : 0 < i) : uv (b :: r) i acc = (0, 0) := by
  rw [uv, if_neg (by omega), if_neg (by omega), if_pos ⟨hb, h⟩]
theorem uv_last (b : UInt8) (r : List UInt8) (i acc : Nat) (h1 : ¬ (i = 9 ∧ 1 < b.toNat)) (h2 : b.toNat < 128) (h3 : ¬ (b.toNat = 0 ∧ 0 < i)) : uv (b :: r) i acc = (acc + b.toNat % 128 * 128 ^ i, i + 1) := by
  rw [uv, if_neg h1, if_neg (by omega), if_neg h3]
theorem pow_128 (k : Nat) : 2 ^ (7 * k) = 128 ^ k := by rw [Nat.pow_mul]
theorem acc_next (acc b i : Nat) (h : acc < 128 ^ i) : acc + b % 128 * 128 ^ i < 128 ^ (i + 1) := by
  have h1 : b % 128 * 128 ^ i ≤ 127 * 128 ^ i := Nat.mul_le_mul_right _ (by omega)
  rw [Nat.pow_succ]; omega
theorem group_room (b i : Nat) (hi : i ≤ 9) (hb : i = 9 → b ≤ 1) : b % 128 * 128 ^ i < 18446744073709551616 := by
  by_cases h9 : i = 9
  · subst h9
    have := hb rfl
    have h1 : b % 128 * 128 ^ 9 ≤ 1 * 128 ^ 9 := Nat.mul_le_mul_right _ (by omega)
    exact Nat.lt_of_le_of_lt h1 (by decide)
  · have h1 : 128 ^ i ≤ 128 ^ 8 := Nat.pow_le_pow_right (by decide) (by omega)
    have h2 : b % 128 * 128 ^ i ≤ 127 * 128 ^ 8 := Nat.mul_le_mul (by omega) h1
    exact Nat.lt_of_le_of_lt h2 (by decide)
theorem acc_room (acc i : Nat) (hi : i ≤ 9) (h : acc < 128 ^ i) : acc < 9223372036854775808 :=
  Nat.lt_of_lt_of_le h (Nat.le_trans (Nat.pow_le_pow_right (by decide) hi) (by decide))
theorem and127 (b : Nat) (hb : b < 256) : Go.bits .and .u8 (b : Int) 127 = ((b % 128 : Nat) : Int) := by
  have e : Go.bits .and .u8 (b : Int) 127 = ((b &&& 127 : Nat) : Int) := Go.u8_and_nat b 127 hb (by decide)
  have h : ∀ a : Fin 256, (a.val &&& 127) = a.val % 128 := by decide +kernel
  rw [e, h ⟨b, hb⟩]
theorem wrap64_of (n : Nat) : Go.IntKind.u64.wrap (n : Int) = ((n % 18446744073709551616 : Nat) : Int) := by
  simp [Go.IntKind.wrap, Go.IntKind.bits, Go.IntKind.signed]
theorem uv_or (acc b i : Nat) (hi : i ≤ 9) (hb : i = 9 → b ≤ 1) (h : acc < 128 ^ i) :
    Go.bits .or .u64 (acc : Int) (Go.IntKind.u64.wrap (((b % 128 : Nat) : Int) * 2 ^ (7 * i))) = ((acc + b % 128 * 128 ^ i : Nat) : Int) := by
  have hg := group_room b i hi hb
  have ha := acc_room acc i hi h
  have e : (((b % 128 : Nat) : Int) * 2 ^ (7 * i)) = ((b % 128 * 2 ^ (7 * i) : Nat) : Int) := by simp
  rw [e, wrap64_of, pow_128, Nat.mod_eq_of_lt hg, ← pow_128]
  exact or_join _ _ _ (by rw [pow_128]; exact h) (by omega) (by rw [pow_128]; exact hg)

theorem uv_or9 (acc b : Nat) (hb : b ≤ 1) (h : acc < 128 ^ 9) :
    Go.bits .or .u64 (acc : Int) ((b : Int) % 128 * 9223372036854775808) = ((acc + b % 128 * 128 ^ 9 : Nat) : Int) := by
  have ho := uv_or acc b 9 (by omega) (fun _ => hb) h
  rw [← ho]
  have e : Go.IntKind.u64.wrap (((b % 128 : Nat) : Int) * 2 ^ (7 * 9)) = (b : Int) % 128 * 9223372036854775808 := by
    rw [show (2 : Int) ^ (7 * 9) = 9223372036854775808 by decide]
    simp only [Go.IntKind.wrap, Go.IntKind.bits, Go.IntKind.signed]
    simp
    omega
  rw [e]
/-- What uv says lies within 64 bits. -/
theorem uv_lt : ∀ (l : List UInt8) (i acc : Nat), i ≤ 9 → acc < 128 ^ i → (uv l i acc).1 < 18446744073709551616 ∧ (uv l i acc).2 ≤ i + l.length ∧ (uv l i acc).2 ≤ 10
  | [], i, acc, hi, h => by simp [uv]
  | b :: r, i, acc, hi, h => by
    by_cases h1 : i = 9 ∧ 1 < b.toNat
    · rw [uv_wide b r i acc h1.1 h1.2]; simp
    · by_cases h2 : 128 ≤ b.toNat
      · rw [uv_more b r i acc (by omega) h2]
        have := uv_lt r (i + 1) _ (by omega) (acc_next acc b.toNat i h)
        refine ⟨this.1, ?_, this.2.2⟩
        simp only [List.length_cons]; omega
      · by_cases h3 : b.toNat = 0 ∧ 0 < i
        · rw [uv_nought b r i acc h3.1 h3.2]; simp
        · rw [uv_last b r i acc h1 (by omega) h3]
          have hg := group_room b.toNat i hi (by omega)
          have ha := acc_room acc i hi h
          refine ⟨?_, by simp only [List.length_cons]; omega, by simp only; omega⟩
          simp only
          by_cases h9 : i = 9
          · have : b.toNat % 128 * 128 ^ i ≤ 9223372036854775808 := by
              subst h9
              have hb1 : b.toNat ≤ 1 := by omega
              exact Nat.le_trans (Nat.mul_le_mul_right (128 ^ 9) (show b.toNat % 128 ≤ 1 by omega)) (by decide)
            omega
          · have := acc_next acc b.toNat i h
            have h10 : 128 ^ (i + 1) ≤ 128 ^ 9 := Nat.pow_le_pow_right (by decide) (by omega)
            have : (128 : Nat) ^ 9 < 18446744073709551616 := by decide
            omega
/-- uv asks at most the first ten bytes. -/
theorem uv_take : ∀ (l : List UInt8) (i acc m : Nat), i ≤ 9 → 10 ≤ i + m → uv (l.take m) i acc = uv l i acc
  | [], i, acc, m, hi, h => by simp
  | b :: r, i, acc, m, hi, h => by
    obtain ⟨m, rfl⟩ : ∃ k, m = k + 1 := ⟨m - 1, by omega⟩
    rw [List.take_succ_cons]
    by_cases h1 : i = 9 ∧ 1 < b.toNat
    · rw [uv_wide b r i acc h1.1 h1.2, uv_wide b _ i acc h1.1 h1.2]
    · by_cases h2 : 128 ≤ b.toNat
      · rw [uv_more b r i acc (by omega) h2, uv_more b _ i acc (by omega) h2]
        exact uv_take r (i + 1) _ m (by omega) (by omega)
      · by_cases h3 : b.toNat = 0 ∧ 0 < i
        · rw [uv_nought b r i acc h3.1 h3.2, uv_nought b _ i acc h3.1 h3.2]
        · rw [uv_last b r i acc h1 (by omega) h3, uv_last b _ i acc h1 (by omega) h3]

/-- The groups of a number as bytes. -/
def varB (x : Nat) : List UInt8 := (varN x).map UInt8.ofNat
theorem varB_small {x : Nat} (h : x < 128) : varB x = [UInt8.ofNat x] := by rw [varB, varN_small h]; rfl
theorem varB_big {x : Nat} (h : 128 ≤ x) : varB x = UInt8.ofNat (x % 128 + 128) :: varB (x / 128) := by rw [varB, varN_big h]; rfl
theorem varB_len (x : Nat) : (varB x).length = (varN x).length := by simp [varB]
/-- What Var writes is read, whatever follows. -/
theorem uv_varB : ∀ (x : Nat) (i acc : Nat) (r : List UInt8), i ≤ 9 → x * 128 ^ i < 18446744073709551616 → (0 < i → 0 < x) → uv (varB x ++ r) i acc = (acc + x * 128 ^ i, i + (varB x).length) := by
  intro x
  induction x using Nat.strongRecOn with
  | _ x ih =>
    intro i acc r hi hx hp
    have h9 : i = 9 → x ≤ 1 := by
      intro h; subst h
      have : (128 : Nat) ^ 9 = 9223372036854775808 := by decide
      rw [this] at hx; omega
    by_cases hs : x < 128
    · have hb : (UInt8.ofNat x).toNat = x := by rw [UInt8.toNat_ofNat']; exact Nat.mod_eq_of_lt (by omega)
      rw [varB_small hs, List.cons_append, uv_last _ _ _ _ (by rw [hb]; omega) (by rw [hb]; omega) (by rw [hb]; omega), hb, Nat.mod_eq_of_lt hs]; rfl
    · have hb : (UInt8.ofNat (x % 128 + 128)).toNat = x % 128 + 128 := by rw [UInt8.toNat_ofNat']; exact Nat.mod_eq_of_lt (by omega)
      have hi9 : i ≠ 9 := by omega
      have e : x / 128 * 128 ^ (i + 1) + x % 128 * 128 ^ i = x * 128 ^ i := by
        rw [Nat.pow_succ, Nat.mul_comm (128 ^ i) 128, ← Nat.mul_assoc, ← Nat.add_mul]
        congr 1; omega
      rw [varB_big (by omega), List.cons_append, uv_more _ _ _ _ hi9 (by rw [hb]; omega), hb, ih (x / 128) (by omega) (i + 1) _ r (by omega) (by omega) (by omega)]
      simp only [List.length_cons, Prod.mk.injEq]
      refine ⟨?_, by omega⟩
      rw [show (x % 128 + 128) % 128 = x % 128 by omega]
      omega
theorem uv_var (x : Nat) (r : List UInt8) (h : x < 18446744073709551616) : uv (varB x ++ r) 0 0 = (x, (varB x).length) := by
  have := uv_varB x 0 0 r (by omega) (by simpa using h) (by omega)
  simpa using this
/-- What is read was written so. -/
theorem uv_sound : ∀ (l : List UInt8) (i acc : Nat), i ≤ 9 → acc < 128 ^ i → (uv l i acc).2 ≠ 0 →
    ∃ x, uv l i acc = (acc + x * 128 ^ i, i + (varB x).length) ∧ l.take (varB x).length = varB x ∧ (0 < i → 0 < x)
  | [], i, acc, hi, h, hn => by simp [uv] at hn
  | b :: r, i, acc, hi, h, hn => by
    have hb := b.toNat_lt
    by_cases h1 : i = 9 ∧ 1 < b.toNat
    · rw [uv_wide b r i acc h1.1 h1.2] at hn; simp at hn
    · by_cases h2 : 128 ≤ b.toNat
      · rw [uv_more b r i acc (by omega) h2] at hn ⊢
        obtain ⟨x, e, ht, hp⟩ := uv_sound r (i + 1) _ (by omega) (acc_next acc b.toNat i h) hn
        have hx := hp (by omega)
        refine ⟨b.toNat % 128 + 128 * x, ?_, ?_, by omega⟩
        · rw [e, varB_big (x := b.toNat % 128 + 128 * x) (by omega), show (b.toNat % 128 + 128 * x) / 128 = x by omega]
          simp only [List.length_cons, Prod.mk.injEq]
          refine ⟨?_, by omega⟩
          rw [Nat.add_mul, Nat.pow_succ, Nat.mul_comm (128 ^ i) 128, ← Nat.mul_assoc, Nat.mul_comm x 128]; omega
        · rw [varB_big (x := b.toNat % 128 + 128 * x) (by omega), show (b.toNat % 128 + 128 * x) / 128 = x by omega, List.length_cons, List.take_succ_cons, ht, show (b.toNat % 128 + 128 * x) % 128 + 128 = b.toNat by omega]
          simp
      · by_cases h3 : b.toNat = 0 ∧ 0 < i
        · rw [uv_nought b r i acc h3.1 h3.2] at hn; simp at hn
        · rw [uv_last b r i acc h1 (by omega) h3]
          refine ⟨b.toNat, ?_, ?_, by omega⟩
          · rw [varB_small (by omega), Nat.mod_eq_of_lt (by omega)]; rfl
          · rw [varB_small (by omega)]; simp

/-- The sum of groups, whatever they are. -/
def sumG : List UInt8 → Nat
  | [] => 0
  | b :: r => b.toNat % 128 + 128 * sumG r
theorem sumG_snoc : ∀ (l : List UInt8) (b : UInt8), sumG (l ++ [b]) = sumG l + b.toNat % 128 * 128 ^ l.length
  | [], b => by simp [sumG]
  | a :: r, b => by
    simp only [List.cons_append, sumG, sumG_snoc r b, List.length_cons, Nat.pow_succ]
    rw [Nat.mul_add, ← Nat.add_assoc, Nat.mul_comm 128 (b.toNat % 128 * _), Nat.mul_assoc]
theorem sumG_varB : ∀ (x : Nat), sumG (varB x) = x := by
  intro x
  induction x using Nat.strongRecOn with
  | _ x ih =>
    by_cases hs : x < 128
    · have hb : (UInt8.ofNat x).toNat = x := by rw [UInt8.toNat_ofNat']; exact Nat.mod_eq_of_lt (by omega)
      rw [varB_small hs]; simp only [sumG, hb]; omega
    · have hb : (UInt8.ofNat (x % 128 + 128)).toNat = x % 128 + 128 := by rw [UInt8.toNat_ofNat']; exact Nat.mod_eq_of_lt (by omega)
      rw [varB_big (by omega)]; simp only [sumG, hb, ih (x / 128) (by omega)]; omega
/-- By trying each length: the first that fits. -/
theorem try_hit (l : List UInt8) (n : Nat) (hn : varB (sumG (l.take n) % 18446744073709551616) = l.take n) (hl : n ≤ l.length) : uv l 0 0 = (sumG (l.take n) % 18446744073709551616, n) := by
  have h := uv_var (sumG (l.take n) % 18446744073709551616) (l.drop n) (Nat.mod_lt _ (by decide))
  have e : (varB (sumG (l.take n) % 18446744073709551616)).length = n := by rw [hn, List.length_take]; omega
  rw [e] at h
  rw [hn, List.take_append_drop] at h
  exact h
theorem try_none (l : List UInt8) (h : ∀ n, 1 ≤ n → n ≤ 10 → n ≤ l.length → varB (sumG (l.take n) % 18446744073709551616) ≠ l.take n) : uv l 0 0 = (0, 0) := by
  by_cases hz : (uv l 0 0).2 = 0
  · have hl := uv_lt l 0 0 (by omega) (by decide)
    by_cases h1 : (uv l 0 0).1 = 0
    · exact Prod.ext h1 hz
    · exfalso
      revert hz h1
      suffices ∀ (l : List UInt8) (i acc : Nat), (uv l i acc).2 = 0 → (uv l i acc).1 = 0 from fun a b => b (this l 0 0 a)
      intro l
      induction l with
      | nil => intro i acc _; rfl
      | cons b r ih =>
        intro i acc
        unfold uv
        split
        · simp
        · split
          · exact ih _ _
          · split
            · simp
            · simp
  · obtain ⟨x, e, ht, _⟩ := uv_sound l 0 0 (by omega) (by decide) hz
    have hl := uv_lt l 0 0 (by omega) (by decide)
    rw [e] at hl
    simp only [Nat.zero_add, Nat.pow_zero, Nat.mul_one] at hl
    exfalso
    refine h (varB x).length ?_ hl.2.2 hl.2.1 ?_
    · rw [varB_len]; exact varN_pos x
    · rw [ht, sumG_varB, Nat.mod_eq_of_lt hl.1]
end Go.Proofs.YtbknflckdbfogaaGreat
namespace Go.Proofs.YtbknflckdbfogaaGreat
open Go.RowKit
set_option linter.unusedVariables false
theorem extract_data (s : ByteArray) (a b : Nat) : (s.extract a b).data.toList = (s.data.toList.drop a).take (b - a) := by
  rw [ByteArray.data_extract, Array.toList_extract]
theorem few_data (s : ByteArray) (n : Nat) : (s.extract 0 n).data.toList = s.data.toList.take n := by rw [extract_data]; simp
theorem size_toList (s : ByteArray) : s.data.toList.length = s.size := by simp
theorem few_size (s : ByteArray) (n : Nat) : (s.extract 0 n).size = min n s.size := by
  rw [← size_toList, few_data, List.length_take, size_toList]
theorem ba_ext {a b : ByteArray} (h : a.data.toList = b.data.toList) : a = b := by
  cases a; cases b; congr 1; exact Array.toList_inj.1 h
theorem few_all (s : ByteArray) (n : Nat) (h : s.size ≤ n) : s.extract 0 n = s := by
  apply ba_ext; rw [few_data, List.take_of_length_le (by rw [size_toList]; exact h)]
theorem own_frm0 {w : World} {base : Nat} {e : TypeId} {sz n : Nat} {v : Value} {xs : List Value} (h : w.ownsRow base e sz v n xs) (hn : 0 < n) : ∃ g cap, v = .slice (some ⟨g, 0, none⟩) n cap ∧ base ≤ g ∧ n ≤ cap ∧ g < w.heap.size := by
  have hl := h.lt
  rcases h.2 with ⟨_, h0⟩ | ⟨g, cap, cur, rfl, hg, _, hc, _⟩
  · omega
  · exact ⟨g, cap, rfl, hg, hc, (hl g rfl).2⟩
theorem bs_data2 (l : List Nat) : (bs l).data.toList = l.map UInt8.ofNat := by simp [bs, strOfNums]
theorem bs_append2 (a b : List Nat) : bs a ++ bs b = bs (a ++ b) := by
  apply ba_ext
  rw [bs_data2, List.map_append, ← bs_data2, ← bs_data2]
  simp [ByteArray.data_append]
theorem bs_size2 (l : List Nat) : (bs l).size = l.length := by rw [← size_toList, bs_data2, List.length_map]
theorem ofNat_map (q : List UInt8) : (q.map UInt8.toNat).map UInt8.ofNat = q := by simp [Function.comp_def]
end Go.Proofs.YtbknflckdbfogaaGreat
namespace Go.Proofs.YtbknflckdbfogaaGreat
open Go
set_option linter.unusedVariables false

/-- The length of symbol i. -/
def ln (ns : List Nat) (i : Nat) : Nat := ns.getD i 0
/-- How many of the first k are above 0. -/
def usedK (ns : List Nat) : Nat → Nat
  | 0 => 0
  | k + 1 => usedK ns k + if 0 < ln ns k then 1 else 0
/-- The parts (of 32768) that those of the first k take that meet p. -/
def partP (ns : List Nat) (p : Nat → Bool) : Nat → Nat
  | 0 => 0
  | k + 1 => partP ns p k + if 0 < ln ns k ∧ p k = true then 2 ^ (15 - ln ns k) else 0
def all15 (ns : List Nat) : Prop := ∀ n ∈ ns, n ≤ 15
theorem all15.at {ns : List Nat} (h : all15 ns) (i : Nat) : ln ns i ≤ 15 := by
  unfold ln
  rw [List.getD_eq_getElem?_getD]
  by_cases hi : i < ns.length
  · rw [List.getElem?_eq_getElem hi]; exact h _ (List.getElem_mem hi)
  · rw [List.getElem?_eq_none (by omega)]; exact Nat.zero_le _
theorem partP_mono (ns : List Nat) {p q : Nat → Bool} (h : ∀ t, p t = true → q t = true) : ∀ k, partP ns p k ≤ partP ns q k
  | 0 => Nat.le_refl _
  | k + 1 => by
    have := partP_mono ns h k
    rw [partP, partP]
    by_cases h1 : 0 < ln ns k ∧ p k = true
    · rw [if_pos h1, if_pos ⟨h1.1, h k h1.2⟩]; omega
    · rw [if_neg h1]; omega
/-- One more symbol that wasn't among them. -/
theorem partP_more (ns : List Nat) {p q : Nat → Bool} (h : ∀ t, p t = true → q t = true) (s : Nat) (hs : 0 < ln ns s) (hp : p s = false) (hq : q s = true) :
    ∀ k, s < k → partP ns p k + 2 ^ (15 - ln ns s) ≤ partP ns q k
  | 0, hk => by omega
  | k + 1, hk => by
    by_cases e : s = k
    · subst e
      have := partP_mono ns h s
      rw [partP, partP, if_neg (by rw [hp]; simp), if_pos ⟨hs, hq⟩]; omega
    · have := partP_more ns h s hs hp hq k (by omega)
      rw [partP, partP]
      by_cases h1 : 0 < ln ns k ∧ p k = true
      · rw [if_pos h1, if_pos ⟨h1.1, h k h1.2⟩]; omega
      · rw [if_neg h1]; omega
/-- All of them. -/
def allP (ns : List Nat) (k : Nat) : Nat := partP ns (fun _ => true) k
/-- Do lengths fit? -/
def fitB (ns : List Nat) : Bool := if usedK ns ns.length = 0 then true else if usedK ns ns.length = 1 then allP ns ns.length == 16384 else allP ns ns.length == 32768
theorem allP_pos (ns : List Nat) : ∀ k, usedK ns k = 0 → allP ns k = 0
  | 0, _ => rfl
  | k + 1, h => by
    rw [usedK] at h
    have h1 := allP_pos ns k (by omega)
    have h2 : ¬ 0 < ln ns k := fun hh => by rw [if_pos hh] at h; omega
    unfold allP at h1 ⊢
    rw [partP, h1, if_neg (by intro hh; exact h2 hh.1)]
theorem fitB_le (ns : List Nat) (h : fitB ns = true) : allP ns ns.length ≤ 32768 := by
  unfold fitB at h
  split at h
  · rename_i h0; rw [allP_pos _ _ h0]; decide
  · split at h
    · have : allP ns ns.length = 16384 := by simpa using h
      omega
    · have : allP ns ns.length = 32768 := by simpa using h
      omega
/-- t stands ahead of s of length n: a shorter code, or an equal one of a lower symbol. -/
def ahead (ns : List Nat) (n s t : Nat) : Bool := decide (ln ns t < n) || (decide (ln ns t = n) && decide (t < s))
theorem ahead_iff {ns : List Nat} {n s t : Nat} : ahead ns n s t = true ↔ ln ns t < n ∨ (ln ns t = n ∧ t < s) := by unfold ahead; simp
theorem ahead_not {ns : List Nat} {n s t : Nat} : ahead ns n s t = false ↔ ¬ (ln ns t < n ∨ (ln ns t = n ∧ t < s)) := by rw [← ahead_iff]; simp
/-- The code's number, as far as the first k symbols tell it. -/
def cdK (ns : List Nat) (n s : Nat) : Nat → Nat
  | 0 => 0
  | k + 1 => cdK ns n s k + if 0 < ln ns k ∧ ahead ns n s k = true then 2 ^ (n - ln ns k) else 0
def cd (ns : List Nat) (n s : Nat) : Nat := cdK ns n s ns.length
theorem cdK_le (ns : List Nat) (n s : Nat) (hn : n ≤ 15) : ∀ k, cdK ns n s k ≤ k * 16384
  | 0 => Nat.zero_le _
  | k + 1 => by
    have := cdK_le ns n s hn k
    rw [cdK]
    by_cases h : 0 < ln ns k ∧ ahead ns n s k = true
    · rw [if_pos h]
      have h14 : 2 ^ (n - ln ns k) ≤ 16384 := Nat.pow_le_pow_right (n := 2) (i := n - ln ns k) (j := 14) (by decide) (by omega)
      omega
    · rw [if_neg h, Nat.add_zero, Nat.succ_mul]; exact Nat.le_trans this (Nat.le_add_right _ _)
/-- A code times what it takes is what stands ahead of it. -/
theorem cdK_part (ns : List Nat) (n s : Nat) (hn : n ≤ 15) : ∀ k, cdK ns n s k * 2 ^ (15 - n) = partP ns (ahead ns n s) k
  | 0 => by simp [cdK, partP]
  | k + 1 => by
    rw [cdK, partP, Nat.add_mul, cdK_part ns n s hn k]
    congr 1
    by_cases h : 0 < ln ns k ∧ ahead ns n s k = true
    · rw [if_pos h, if_pos h, ← Nat.pow_add]
      congr 1
      have : ln ns k ≤ n := by
        have := ahead_iff.1 h.2
        omega
      omega
    · rw [if_neg h, if_neg h]; simp
theorem ahead_self (ns : List Nat) (s : Nat) : ahead ns (ln ns s) s s = false := by rw [ahead_not]; omega
theorem ahead_trans (ns : List Nat) (s t u : Nat) (h : ahead ns (ln ns s) s t = true) (k : ahead ns (ln ns t) t u = true) : ahead ns (ln ns s) s u = true := by
  rw [ahead_iff] at *
  omega
/-- The code that stands ahead ends where the other begins, or ahead of it. -/
theorem cd_before (ns : List Nat) (h15 : all15 ns) (s t : Nat) (ht : t < ns.length) (hp : 0 < ln ns t) (h : ahead ns (ln ns s) s t = true) :
    (cd ns (ln ns t) t + 1) * 2 ^ (15 - ln ns t) ≤ cd ns (ln ns s) s * 2 ^ (15 - ln ns s) := by
  unfold cd
  rw [Nat.add_mul, cdK_part ns _ t (h15.at t), cdK_part ns _ s (h15.at s), Nat.one_mul]
  exact partP_more ns (fun u hu => ahead_trans ns s t u h hu) t hp (ahead_self ns t) h _ ht
theorem cd_end (ns : List Nat) (h15 : all15 ns) (s : Nat) (hs : s < ns.length) (hp : 0 < ln ns s) : (cd ns (ln ns s) s + 1) * 2 ^ (15 - ln ns s) ≤ allP ns ns.length := by
  unfold cd
  rw [Nat.add_mul, cdK_part ns _ s (h15.at s), Nat.one_mul]
  exact partP_more ns (fun _ _ => rfl) s hp (ahead_self ns s) rfl _ hs
/-- A code has no more bits than its length. -/
theorem cd_lt (ns : List Nat) (h15 : all15 ns) (hf : fitB ns = true) (s : Nat) (hs : s < ns.length) (hp : 0 < ln ns s) : cd ns (ln ns s) s < 2 ^ ln ns s := by
  have h1 := cd_end ns h15 s hs hp
  have h2 := fitB_le ns hf
  have h3 := h15.at s
  have e : 32768 = 2 ^ ln ns s * 2 ^ (15 - ln ns s) := by rw [← Nat.pow_add, show ln ns s + (15 - ln ns s) = 15 by omega]
  rw [e] at h2
  have := Nat.le_of_mul_le_mul_right (Nat.le_trans h1 h2) (Nat.two_pow_pos _)
  omega
theorem ahead_total (ns : List Nat) (s t : Nat) (h : s ≠ t) : ahead ns (ln ns s) s t = true ∨ ahead ns (ln ns t) t s = true := by
  rw [ahead_iff, ahead_iff]
  omega
/-- The shorter one of two codes doesn't begin the other. -/
theorem cd_apart (ns : List Nat) (h15 : all15 ns) (s t : Nat) (ht : t < ns.length) (hp : 0 < ln ns t) (h : ahead ns (ln ns s) s t = true) : cd ns (ln ns t) t < cd ns (ln ns s) s / 2 ^ (ln ns s - ln ns t) := by
  have h1 := cd_before ns h15 s t ht hp h
  have hle : ln ns t ≤ ln ns s := by have := ahead_iff.1 h; omega
  have h3 := h15.at s
  have e : 2 ^ (15 - ln ns t) = 2 ^ (ln ns s - ln ns t) * 2 ^ (15 - ln ns s) := by rw [← Nat.pow_add]; congr 1; omega
  rw [e, ← Nat.mul_assoc] at h1
  have h4 := Nat.le_of_mul_le_mul_right h1 (Nat.two_pow_pos _)
  exact (Nat.le_div_iff_mul_le (Nat.two_pow_pos _)).2 h4
/-! ### The order in which they are reckoned -/
theorem cd_next (ns : List Nat) (n i : Nat) (hn : 0 < n) (hi : i < ns.length) : cd ns n (i + 1) = cd ns n i + if ln ns i = n then 1 else 0 := by
  have key : ∀ k, cdK ns n (i + 1) k = cdK ns n i k + if i < k ∧ ln ns i = n then 1 else 0 := by
    intro k
    induction k with
    | zero => simp [cdK]
    | succ k ih =>
      rw [cdK, cdK, ih]
      by_cases e : k = i
      · subst e
        rw [if_neg (show ¬ (k < k ∧ ln ns k = n) by omega)]
        by_cases h : ln ns k = n
        · rw [if_pos (show 0 < ln ns k ∧ ahead ns n (k + 1) k = true from ⟨by omega, ahead_iff.2 (by omega)⟩), if_neg (show ¬ (0 < ln ns k ∧ ahead ns n k k = true) from fun hh => by have := ahead_iff.1 hh.2; omega), if_pos (show k < k + 1 ∧ ln ns k = n by omega), h, Nat.sub_self]
        · rw [if_neg (show ¬ (k < k + 1 ∧ ln ns k = n) by omega)]
          by_cases h2 : 0 < ln ns k ∧ ahead ns n k k = true
          · have := ahead_iff.1 h2.2
            rw [if_pos h2, if_pos ⟨h2.1, ahead_iff.2 (by omega)⟩]; omega
          · rw [if_neg h2, if_neg (fun hh => h2 ⟨hh.1, ahead_iff.2 (by have := ahead_iff.1 hh.2; omega)⟩)]
      · have a1 : (if 0 < ln ns k ∧ ahead ns n (i + 1) k = true then 2 ^ (n - ln ns k) else 0) = if 0 < ln ns k ∧ ahead ns n i k = true then 2 ^ (n - ln ns k) else 0 := by
          by_cases h2 : 0 < ln ns k ∧ ahead ns n i k = true
          · have := ahead_iff.1 h2.2
            rw [if_pos h2, if_pos ⟨h2.1, ahead_iff.2 (by omega)⟩]
          · rw [if_neg h2, if_neg (fun hh => h2 ⟨hh.1, ahead_iff.2 (by have := ahead_iff.1 hh.2; omega)⟩)]
        rw [a1]
        by_cases h3 : i < k ∧ ln ns i = n
        · rw [if_pos h3, if_pos (show i < k + 1 ∧ ln ns i = n by omega)]; omega
        · rw [if_neg h3, if_neg (show ¬ (i < k + 1 ∧ ln ns i = n) by omega)]
          omega
  unfold cd
  rw [key]
  by_cases h : ln ns i = n
  · rw [if_pos ⟨hi, h⟩, if_pos h]
  · rw [if_neg (fun hh => h hh.2), if_neg h]
theorem cd_round (ns : List Nat) (n : Nat) : cd ns (n + 1) 0 = 2 * cd ns n ns.length := by
  have key : ∀ k, k ≤ ns.length → cdK ns (n + 1) 0 k = 2 * cdK ns n ns.length k := by
    intro k
    induction k with
    | zero => intro _; simp [cdK]
    | succ k ih =>
      intro hk
      rw [cdK, cdK, ih (by omega)]
      have a1 : ahead ns (n + 1) 0 k = ahead ns n ns.length k := by
        rw [Bool.eq_iff_iff, ahead_iff, ahead_iff]; omega
      rw [a1]
      by_cases h : 0 < ln ns k ∧ ahead ns n ns.length k = true
      · rw [if_pos h, if_pos h]
        have hle : ln ns k ≤ n := by have := ahead_iff.1 h.2; omega
        rw [show n + 1 - ln ns k = n - ln ns k + 1 by omega, Nat.pow_succ]; omega
      · rw [if_neg h, if_neg h]; omega
  exact key _ (Nat.le_refl _)
theorem cd_zero (ns : List Nat) : cd ns 0 ns.length = 0 := by
  have key : ∀ k, cdK ns 0 ns.length k = 0 := by
    intro k
    induction k with
    | zero => rfl
    | succ k ih =>
      rw [cdK, ih, if_neg]
      intro h
      have := ahead_iff.1 h.2
      omega
  exact key _
end Go.Proofs.YtbknflckdbfogaaGreat
