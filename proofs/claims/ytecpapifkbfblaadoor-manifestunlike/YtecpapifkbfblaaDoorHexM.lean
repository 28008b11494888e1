/- The plain mathematics of hexadecimal digits: no program. -/
import Derived.Laws.BitsAllLaws
namespace Go.Proofs.YtecpapifkbfblaaDoor
set_option linter.unusedVariables false

/-- The digit of a number below sixteen, as a byte's number. -/
def dig (n : Nat) : Nat := if n < 10 then 48 + n else 87 + n
/-- The worth of a byte as a digit; 16: it is none. -/
def wor (b : Nat) : Nat := if 48 ≤ b ∧ b ≤ 57 then b - 48 else if 97 ≤ b ∧ b ≤ 102 then b - 87 else 16
theorem wor_dig : ∀ n : Fin 16, wor (dig n.val) = n.val := by decide
theorem dig_wor : ∀ b : Fin 256, wor b.val < 16 → dig (wor b.val) = b.val := by decide +kernel
theorem dig_lt : ∀ n : Fin 16, dig n.val < 128 := by decide
/-- Two digits a byte. -/
def hexL (l : List UInt8) : List Nat := l.flatMap fun b => [dig (b.toNat / 16), dig (b.toNat % 16)]
def hexB (l : List UInt8) : List UInt8 := (hexL l).map UInt8.ofNat
theorem hexL_snoc (l : List UInt8) (b : UInt8) : hexL (l ++ [b]) = hexL l ++ [dig (b.toNat / 16), dig (b.toNat % 16)] := by simp [hexL]
theorem hexL_len (l : List UInt8) : (hexL l).length = 2 * l.length := by
  induction l with
  | nil => rfl
  | cons b r ih => simp only [hexL, List.flatMap_cons, List.length_append, List.length_cons, List.length_nil] at *; omega
/-- The bytes of a row of digits, two by two; none: it is no such row. -/
def unhex : List UInt8 → Option (List UInt8)
  | [] => some []
  | [_] => none
  | a :: b :: r => if wor a.toNat < 16 ∧ wor b.toNat < 16 then (unhex r).map fun l => UInt8.ofNat (16 * wor a.toNat + wor b.toNat) :: l else none
theorem unhex_hexB : ∀ l : List UInt8, unhex (hexB l) = some l
  | [] => rfl
  | c :: r => by
    have hc := c.toNat_lt
    have h1 : (UInt8.ofNat (dig (c.toNat / 16))).toNat = dig (c.toNat / 16) := by
      rw [UInt8.toNat_ofNat']; exact Nat.mod_eq_of_lt (by have := dig_lt ⟨c.toNat / 16, by omega⟩; simp only at this; omega)
    have h2 : (UInt8.ofNat (dig (c.toNat % 16))).toNat = dig (c.toNat % 16) := by
      rw [UInt8.toNat_ofNat']; exact Nat.mod_eq_of_lt (by have := dig_lt ⟨c.toNat % 16, by omega⟩; simp only at this; omega)
    have w1 := wor_dig ⟨c.toNat / 16, by omega⟩
    have w2 := wor_dig ⟨c.toNat % 16, by omega⟩
    simp only at w1 w2
    have e : hexB (c :: r) = UInt8.ofNat (dig (c.toNat / 16)) :: UInt8.ofNat (dig (c.toNat % 16)) :: hexB r := rfl
    rw [e, unhex, h1, h2, w1, w2, if_pos ⟨by omega, by omega⟩, unhex_hexB r, show 16 * (c.toNat / 16) + c.toNat % 16 = c.toNat by omega]
    simp
/-- What Unhex hands back: the bytes, as numbers. -/
def uhL (l : List UInt8) : List Nat := ((unhex l).getD []).map UInt8.toNat
theorem uhL_none {l : List UInt8} (h : unhex l = none) : uhL l = [] := by unfold uhL; rw [h]; rfl
theorem unhex_bad (a : UInt8) (r : List UInt8) (h : ¬ wor a.toNat < 16) : unhex (a :: r) = none := by
  cases r with
  | nil => rfl
  | cons b r => rw [unhex, if_neg (fun x => h x.1)]
theorem unhex_bad2 (a b : UInt8) (r : List UInt8) (h : ¬ wor b.toNat < 16) : unhex (a :: b :: r) = none := by rw [unhex, if_neg (fun x => h x.2)]
theorem unhex_pair (a b : UInt8) (r : List UInt8) (ha : wor a.toNat < 16) (hb : wor b.toNat < 16) : unhex (a :: b :: r) = (unhex r).map fun l => UInt8.ofNat (16 * wor a.toNat + wor b.toNat) :: l := by
  rw [unhex, if_pos ⟨ha, hb⟩]
/-- How far Unhex has come: the bytes of the pairs that were read. -/
def UP (l : List UInt8) (dec : List Nat) : Prop := unhex l = (unhex (l.drop (2 * dec.length))).map fun r => dec.map UInt8.ofNat ++ r
theorem UP.start (l : List UInt8) : UP l [] := by
  unfold UP; simp
theorem UP.step {l : List UInt8} {dec : List Nat} {a b : UInt8} {r : List UInt8} (h : UP l dec) (hd : l.drop (2 * dec.length) = a :: b :: r) (ha : wor a.toNat < 16) (hb : wor b.toNat < 16) : UP l (dec ++ [16 * wor a.toNat + wor b.toNat]) := by
  unfold UP at *
  have e : l.drop (2 * (dec ++ [16 * wor a.toNat + wor b.toNat]).length) = r := by
    rw [List.length_append, List.length_cons, List.length_nil, show 2 * (dec.length + (0 + 1)) = 2 * dec.length + 2 by omega, ← List.drop_drop, hd]; rfl
  rw [h, hd, unhex_pair a b r ha hb, e, Option.map_map]
  congr 1
  funext x
  simp
theorem UP.bad {l : List UInt8} {dec : List Nat} (h : UP l dec) (hn : unhex (l.drop (2 * dec.length)) = none) : unhex l = none := by
  unfold UP at h; rw [h, hn]; rfl
theorem UP.all {l : List UInt8} {dec : List Nat} (h : UP l dec) (hl : l.length = 2 * dec.length) : unhex l = some (dec.map UInt8.ofNat) := by
  unfold UP at h; rw [h, List.drop_eq_nil_of_le (by omega)]; simp [unhex]
theorem unhex_odd_none : ∀ l : List UInt8, l.length % 2 = 1 → unhex l = none
  | [], h => by simp at h
  | [_], _ => rfl
  | a :: b :: r, h => by
    rw [unhex]
    split
    · rw [unhex_odd_none r (by simp only [List.length_cons] at h; omega)]; rfl
    · rfl
theorem wor_lt128 (b : Nat) (h : wor b < 16) : b < 128 := by
  unfold wor at h
  split at h
  · omega
  · split at h <;> omega
theorem wor_high (r : Nat) (h : 128 ≤ r) : ¬ wor r < 16 := fun x => by have := wor_lt128 r x; omega
theorem nib_or : ∀ a b : Fin 16, ((a.val * 16) ||| b.val) = 16 * a.val + b.val := by decide
theorem nib_go (a b : Nat) (ha : a < 16) (hb : b < 16) : Go.bits .or .u8 ((a : Int) * 16) (b : Int) = ((16 * a + b : Nat) : Int) := by
  have e : ((a : Int) * 16) = ((a * 16 : Nat) : Int) := by simp
  rw [e, Go.u8_or_nat (a * 16) b (by omega) (by omega), nib_or ⟨a, ha⟩ ⟨b, hb⟩]
end Go.Proofs.YtecpapifkbfblaaDoor
