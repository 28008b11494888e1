/- The plain mathematics of the cyclic sum's table: no program. -/
import Derived.Laws.BitsAllLaws
namespace Go.Proofs.YtkgjepgaekbniaaDoor
set_option linter.unusedVariables false

/-- One bit's step. -/
def shf (c : Nat) : Nat := if c % 2 = 1 then (c / 2) ^^^ 3988292384 else c / 2
/-- Eight steps: a byte's entry of the table. -/
def ent (b : Nat) : Nat := shf (shf (shf (shf (shf (shf (shf (shf b)))))))
def cOf (m : Nat) : Nat := if m = 8 then 1 else ent (2 ^ m)

theorem shf_lt (c : Nat) (h : c < 4294967296) : shf c < 4294967296 := by
  unfold shf
  split
  · exact Nat.xor_lt_two_pow (n := 32) (by omega) (by decide)
  · omega
theorem ent_lt (b : Nat) (h : b < 4294967296) : ent b < 4294967296 := by
  unfold ent
  repeat apply shf_lt
  exact h
theorem cOf_lt (m : Nat) (h : m ≤ 8) : cOf m < 4294967296 := by
  unfold cOf
  split
  · decide
  · refine ent_lt _ (Nat.lt_of_lt_of_le (Nat.pow_lt_pow_right (by decide) (show m < 32 by omega)) (by decide))
theorem cOf_step : ∀ m : Fin 8, shf (cOf (m.val + 1)) = ent (2 ^ m.val) := by decide
theorem cOf_shf (m : Nat) (h : m < 8) : shf (cOf (m + 1)) = cOf m := by
  rw [cOf_step ⟨m, h⟩]; unfold cOf; rw [if_neg (by omega)]
theorem ent_add : ∀ m : Fin 8, ∀ i : Fin 128, 2 ^ (m.val + 1) * i.val < 256 → ent (2 ^ (m.val + 1) * i.val) ^^^ cOf m.val = ent (2 ^ (m.val + 1) * i.val + 2 ^ m.val) := by decide +kernel

/-- How far a byte's table has come: all entries at multiples of d. -/
def TabAt (d : Nat) (T : Nat → Nat) : Prop := ∀ j, j < 256 → j % d = 0 → T j = ent j
/-- Within a round: all at multiples of 2 d, and those below b at multiples of d. -/
def TabIn (d b : Nat) (T : Nat → Nat) : Prop := TabAt (2 * d) T ∧ ∀ j, j < b → j < 256 → j % d = 0 → T j = ent j
def upd (T : Nat → Nat) (i v : Nat) : Nat → Nat := fun j => if j = i then v else T j

theorem tabIn_zero (m : Nat) (T : Nat → Nat) (h : TabAt (2 ^ (m + 1)) T) : TabIn (2 ^ m) 0 T := by
  refine ⟨?_, fun j hj => by omega⟩
  rw [Nat.pow_succ, Nat.mul_comm] at h; exact h
theorem tabIn_end (m : Nat) (T : Nat → Nat) (h : TabIn (2 ^ m) 256 T) : TabAt (2 ^ m) T := fun j hj hd => h.2 j hj hj hd
theorem tabAt_start : TabAt (2 ^ 8) fun _ => 0 := by
  intro j hj hd
  obtain rfl : j = 0 := by simp at hd; omega
  decide
theorem tabIn_step (m i : Nat) (hm : m < 8) (T : Nat → Nat) (hb : 2 ^ (m + 1) * i < 256) (h : TabIn (2 ^ m) (2 ^ (m + 1) * i) T) :
    TabIn (2 ^ m) (2 ^ (m + 1) * (i + 1)) (upd T (2 ^ (m + 1) * i + 2 ^ m) (T (2 ^ (m + 1) * i) ^^^ cOf m)) := by
  have hi : i < 128 := by
    have : 2 ^ 1 ≤ 2 ^ (m + 1) := Nat.pow_le_pow_right (by decide) (by omega)
    have := Nat.mul_le_mul_right i this
    omega
  have e0 : T (2 ^ (m + 1) * i) = ent (2 ^ (m + 1) * i) := h.1 _ hb (by rw [Nat.pow_succ, Nat.mul_comm (2 ^ m) 2]; simp)
  have ea := ent_add ⟨m, hm⟩ ⟨i, hi⟩ hb
  simp only at ea
  have key : T (2 ^ (m + 1) * i) ^^^ cOf m = ent (2 ^ (m + 1) * i + 2 ^ m) := by rw [e0, ea]
  rw [key]
  obtain ⟨h1, h2⟩ := h
  clear ea key
  unfold TabIn TabAt upd at *
  refine ⟨fun j hj hd => ?_, fun j hjb hj hd => ?_⟩
  · by_cases hjx : j = 2 ^ (m + 1) * i + 2 ^ m
    · simp [hjx]
    · simp only [hjx, if_false]; exact h1 j hj hd
  · by_cases hjx : j = 2 ^ (m + 1) * i + 2 ^ m
    · simp [hjx]
    · simp only [hjx, if_false]
      by_cases hlt : j < 2 ^ (m + 1) * i
      · exact h2 j hlt hj hd
      · have : j = 2 ^ (m + 1) * i := by
          obtain ⟨q, rfl⟩ := Nat.dvd_of_mod_eq_zero hd
          have e1 : 2 ^ (m + 1) * i = 2 ^ m * (2 * i) := by rw [Nat.pow_succ, Nat.mul_assoc]
          have e2 : 2 ^ (m + 1) * (i + 1) = 2 ^ m * (2 * i + 2) := by rw [Nat.pow_succ, Nat.mul_assoc, Nat.mul_add]
          rw [e1] at hlt hjx ⊢
          rw [e2] at hjb
          have p : 0 < 2 ^ m := Nat.pow_pos (by decide)
          have a1 : q < 2 * i + 2 := Nat.lt_of_mul_lt_mul_left hjb
          have a2 : 2 * i ≤ q := Nat.le_of_mul_le_mul_left (Nat.le_of_not_lt hlt) p
          have a3 : q ≠ 2 * i + 1 := fun e => hjx (by rw [e, Nat.mul_add, Nat.mul_one])
          congr 1; omega
        rw [this] at *
        exact h1 _ hb (by rw [Nat.pow_succ, Nat.mul_comm (2 ^ m) 2]; simp)

/-- Two facts on powers that the walk asks. -/
theorem pow_room (m i : Nat) (hm : m < 8) (hb : 2 ^ (m + 1) * i < 256) : 2 ^ (m + 1) * i + 2 ^ m < 256 ∧ 2 ^ (m + 1) * (i + 1) ≤ 256 ∧ 2 ^ m ≤ 128 := by
  have h : 2 ^ (m + 1) * 2 ^ (7 - m) = 256 := by rw [← Nat.pow_add, show m + 1 + (7 - m) = 8 by omega]
  have p : 0 < 2 ^ (m + 1) := Nat.pow_pos (by decide)
  have a : i < 2 ^ (7 - m) := by
    rw [← h] at hb; exact Nat.lt_of_mul_lt_mul_left hb
  have b : 2 ^ (m + 1) * (i + 1) ≤ 256 := by rw [← h]; exact Nat.mul_le_mul_left _ a
  have c : 2 ^ m ≤ 2 ^ 7 := Nat.pow_le_pow_right (by decide) (by omega)
  have d : 0 < 2 ^ m := Nat.pow_pos (by decide)
  have e : 2 ^ (m + 1) = 2 ^ m * 2 := Nat.pow_succ ..
  refine ⟨?_, b, by omega⟩
  rw [Nat.mul_add, Nat.mul_one] at b
  omega
theorem pow_all (m i : Nat) (hm : m < 8) (h1 : ¬ 2 ^ (m + 1) * i < 256) (h2 : 2 ^ (m + 1) * i ≤ 256) : 2 ^ (m + 1) * i = 256 := by omega

theorem shf_u32 (c : Nat) (h : c < 4294967296) : Go.bits .xor .u32 ((c : Int) / 2) 3988292384 = (((c / 2) ^^^ 3988292384 : Nat) : Int) := Go.u32_xor_nat (c / 2) 3988292384 (by omega) (by decide)
theorem and1_u32 (c : Nat) (h : c < 4294967296) : Go.bits .and .u32 (c : Int) 1 = ((c % 2 : Nat) : Int) := by
  have := Go.u32_and_nat c 1 h (by decide)
  rw [Nat.and_one_is_mod] at this
  exact this
/-- A byte's step of the sum, and the sum of a text behind what has the sum c. -/
def crcStep (c b : Nat) : Nat := ent ((c % 256) ^^^ b) ^^^ (c / 256)
def crcF (c : Nat) (l : List UInt8) : Nat := l.foldl (fun c b => crcStep c b.toNat) c
def crcV (c : Nat) (l : List UInt8) : Nat := 4294967295 - crcF (4294967295 - c) l
theorem xor_byte (a b : Nat) (ha : a < 256) (hb : b < 256) : a ^^^ b < 256 := Nat.xor_lt_two_pow (n := 8) ha hb
theorem crcStep_lt (c b : Nat) (hc : c < 4294967296) (hb : b < 256) : crcStep c b < 4294967296 :=
  Nat.xor_lt_two_pow (n := 32) (ent_lt _ (by have := xor_byte (c % 256) b (by omega) hb; omega)) (by omega)
theorem crcF_lt : ∀ (l : List UInt8) (c : Nat), c < 4294967296 → crcF c l < 4294967296
  | [], c, h => h
  | b :: r, c, h => crcF_lt r _ (crcStep_lt c _ h b.toNat_lt)
theorem crcF_snoc (c : Nat) (l : List UInt8) (b : UInt8) : crcF c (l ++ [b]) = crcStep (crcF c l) b.toNat := by simp [crcF]
theorem crcF_append (c : Nat) (l r : List UInt8) : crcF c (l ++ r) = crcF (crcF c l) r := by simp [crcF]
theorem crcV_lt (c : Nat) (l : List UInt8) : crcV c l < 4294967296 := by unfold crcV; omega
theorem crcV_append (c : Nat) (l r : List UInt8) : crcV (crcV c l) r = crcV c (l ++ r) := by
  have := crcF_lt l (4294967295 - c) (by omega)
  unfold crcV
  rw [crcF_append, show 4294967295 - (4294967295 - crcF (4294967295 - c) l) = crcF (4294967295 - c) l by omega]
theorem crcV_nil (c : Nat) (h : c < 4294967296) : crcV c [] = c := by unfold crcV crcF; simp; omega
theorem take_snoc (s : ByteArray) (k : Nat) (h : k < s.size) : s.data.toList.take (k + 1) = s.data.toList.take k ++ [s[k]] := by
  rw [List.take_succ_eq_append_getElem (by simpa using h)]; rfl
end Go.Proofs.YtkgjepgaekbniaaDoor
