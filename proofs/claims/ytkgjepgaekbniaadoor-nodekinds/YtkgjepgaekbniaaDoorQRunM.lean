/- Runes of a text, as plain functions on its bytes: the rune at the front, what is broken, small letters, how many, the first n. -/
import Derived.Lib.ValidU
import Derived.Lib.RuneBytes
namespace Go.Proofs.YtkgjepgaekbniaaDoor
open Go.Lib (decodeL decodeN)
set_option linter.unusedVariables false

/-- A byte that goes on with a rune. -/
def cnt (b : UInt8) : Bool := b.toNat / 64 == 2
/-- The rune at the front of b :: t, and its width; (65533, 1): b is broken. -/
def dcd (b : UInt8) : List UInt8 → Nat × Nat
  | [] => if b.toNat < 128 then (b.toNat, 1) else (65533, 1)
  | [b1] => decodeN 2 b.toNat b1.toNat 0 0
  | [b1, b2] => decodeN 3 b.toNat b1.toNat b2.toNat 0
  | b1 :: b2 :: b3 :: _ => decodeN 4 b.toNat b1.toNat b2.toNat b3.toNat
theorem decodeN_more (n b0 b1 b2 b3 : Nat) (h : 4 ≤ n) : decodeN n b0 b1 b2 b3 = decodeN 4 b0 b1 b2 b3 := by
  simp only [decodeN, show 1 < n by omega, show 2 < n by omega, show 3 < n by omega]
  simp
theorem get_list (l : List UInt8) (i : Nat) : (ByteArray.mk l.toArray).get! i = l.getD i 0 := by
  show (l.toArray)[i]! = _
  rw [getElem!_def]
  cases h : l[i]? <;> simp [h, List.getD]
  rfl
theorem decodeL_cons (b : UInt8) (t : List UInt8) : decodeL (b :: t) = dcd b t := by
  unfold decodeL
  rw [Lib.decode_at]
  simp only [get_list]
  have hsz : (ByteArray.mk (b :: t).toArray).size = t.length + 1 := rfl
  rw [hsz]
  match t with
  | [] =>
    show decodeN 1 b.toNat 0 0 0 = _
    simp only [dcd, decodeN]
    split
    · rfl
    · rw [if_neg (by omega), if_neg (by omega), if_neg (by omega)]
  | [b1] => simp [dcd, List.getD]
  | [b1, b2] => simp [dcd, List.getD]
  | b1 :: b2 :: b3 :: r =>
    simp only [dcd, List.getD, List.length_cons]
    rw [decodeN_more _ _ _ _ _ (by omega)]
    simp
/-- Broken. -/
def brk (x : Nat × Nat) : Prop := x.1 = 65533 ∧ x.2 = 1
instance (x : Nat × Nat) : Decidable (brk x) := inferInstanceAs (Decidable (_ ∧ _))
theorem decodeN_width (n b0 b1 b2 b3 : Nat) : 1 ≤ (decodeN n b0 b1 b2 b3).2 ∧ (decodeN n b0 b1 b2 b3).2 ≤ 4 := by
  unfold decodeN
  repeat' split
  all_goals simp
theorem cnt_iff (b : UInt8) : cnt b = true ↔ b.toNat / 64 = 2 := by simp [cnt]
/-- What is a rune is one whatever follows, and goes on by such bytes alone. -/
theorem dcd_good (b : UInt8) (t : List UInt8) (h : ¬ brk (dcd b t)) :
    1 ≤ (dcd b t).2 ∧ (dcd b t).2 ≤ t.length + 1 ∧ (∀ x ∈ t.take ((dcd b t).2 - 1), cnt x = true) ∧ ∀ R, dcd b (t.take ((dcd b t).2 - 1) ++ R) = dcd b t := by
  have key : ∀ (R : List UInt8), b.toNat < 128 → dcd b R = (b.toNat, 1) := fun R hb => by
    match R with
    | [] => simp [dcd, hb]
    | [b1] => simp [dcd, decodeN, hb]
    | [b1, b2] => simp [dcd, decodeN, hb]
    | b1 :: b2 :: b3 :: r => simp [dcd, decodeN, hb]
  by_cases hb : b.toNat < 128
  · rw [key t hb]
    simp only [Nat.sub_self, List.take_zero, List.nil_append]
    exact ⟨Nat.le_refl _, by omega, by simp, fun R => key R hb⟩
  have two : ∀ (b1 : UInt8) (r : List UInt8), b.toNat / 32 = 6 → b1.toNat / 64 = 2 → 128 ≤ b.toNat % 32 * 64 + b1.toNat % 64 → dcd b (b1 :: r) = (b.toNat % 32 * 64 + b1.toNat % 64, 2) := fun b1 r h6 h1 hc => by
    match r with
    | [] => simp [dcd, decodeN, hb, h6, h1, hc]
    | [b2] => simp [dcd, decodeN, hb, h6, h1, hc]
    | b2 :: b3 :: r => simp [dcd, decodeN, hb, h6, h1, hc]
  have three : ∀ (b1 b2 : UInt8) (r : List UInt8), b.toNat / 16 = 14 → b1.toNat / 64 = 2 → b2.toNat / 64 = 2 →
      (b.toNat % 16 * 4096 + b1.toNat % 64 * 64 + b2.toNat % 64 ≥ 2048 ∧ (b.toNat % 16 * 4096 + b1.toNat % 64 * 64 + b2.toNat % 64 < 55296 ∨ (57344 ≤ b.toNat % 16 * 4096 + b1.toNat % 64 * 64 + b2.toNat % 64 ∧ b.toNat % 16 * 4096 + b1.toNat % 64 * 64 + b2.toNat % 64 ≤ 1114111))) →
      dcd b (b1 :: b2 :: r) = (b.toNat % 16 * 4096 + b1.toNat % 64 * 64 + b2.toNat % 64, 3) := fun b1 b2 r h14 h1 h2 hc => by
    have h6 : ¬ b.toNat / 32 = 6 := by omega
    match r with
    | [] => simp only [dcd, decodeN]; rw [if_neg hb, if_neg (by omega), if_pos (by omega), if_pos hc]
    | b3 :: r => simp only [dcd, decodeN]; rw [if_neg hb, if_neg (by omega), if_pos (by omega), if_pos hc]
  match t with
  | [] => exact absurd (by simp [dcd, hb, brk]) h
  | [b1] =>
    by_cases h2 : b.toNat / 32 = 6 ∧ b1.toNat / 64 = 2 ∧ 128 ≤ b.toNat % 32 * 64 + b1.toNat % 64
    · rw [two b1 [] h2.1 h2.2.1 h2.2.2]
      exact ⟨by simp, by simp, by simp [cnt, h2.2.1], fun R => by simpa using two b1 R h2.1 h2.2.1 h2.2.2⟩
    · refine absurd ?_ h
      simp only [dcd, decodeN]
      rw [if_neg hb]
      split
      · rw [if_neg (by omega)]; exact ⟨rfl, rfl⟩
      · rw [if_neg (by omega), if_neg (by omega)]; exact ⟨rfl, rfl⟩
  | [b1, b2] =>
    by_cases h2 : b.toNat / 32 = 6 ∧ b1.toNat / 64 = 2 ∧ 128 ≤ b.toNat % 32 * 64 + b1.toNat % 64
    · rw [two b1 _ h2.1 h2.2.1 h2.2.2]
      exact ⟨by simp, by simp, by simp [cnt, h2.2.1], fun R => by simpa using two b1 R h2.1 h2.2.1 h2.2.2⟩
    · by_cases h3 : b.toNat / 16 = 14 ∧ b1.toNat / 64 = 2 ∧ b2.toNat / 64 = 2 ∧ (b.toNat % 16 * 4096 + b1.toNat % 64 * 64 + b2.toNat % 64 ≥ 2048 ∧ (b.toNat % 16 * 4096 + b1.toNat % 64 * 64 + b2.toNat % 64 < 55296 ∨ (57344 ≤ b.toNat % 16 * 4096 + b1.toNat % 64 * 64 + b2.toNat % 64 ∧ b.toNat % 16 * 4096 + b1.toNat % 64 * 64 + b2.toNat % 64 ≤ 1114111)))
      · rw [three b1 b2 _ h3.1 h3.2.1 h3.2.2.1 h3.2.2.2]
        exact ⟨by simp, by simp, by simp [cnt, h3.2.1, h3.2.2.1], fun R => by simpa using three b1 b2 R h3.1 h3.2.1 h3.2.2.1 h3.2.2.2⟩
      · refine absurd ?_ h
        simp only [dcd, decodeN]
        rw [if_neg hb]
        split
        · rw [if_neg (by omega)]; exact ⟨rfl, rfl⟩
        · split
          · rw [if_neg (by omega)]; exact ⟨rfl, rfl⟩
          · rw [if_neg (by omega)]; exact ⟨rfl, rfl⟩
  | b1 :: b2 :: b3 :: r =>
    by_cases h2 : b.toNat / 32 = 6 ∧ b1.toNat / 64 = 2 ∧ 128 ≤ b.toNat % 32 * 64 + b1.toNat % 64
    · rw [two b1 _ h2.1 h2.2.1 h2.2.2]
      exact ⟨by simp, by simp, by simp [cnt, h2.2.1], fun R => by simpa using two b1 R h2.1 h2.2.1 h2.2.2⟩
    · by_cases h3 : b.toNat / 16 = 14 ∧ b1.toNat / 64 = 2 ∧ b2.toNat / 64 = 2 ∧ (b.toNat % 16 * 4096 + b1.toNat % 64 * 64 + b2.toNat % 64 ≥ 2048 ∧ (b.toNat % 16 * 4096 + b1.toNat % 64 * 64 + b2.toNat % 64 < 55296 ∨ (57344 ≤ b.toNat % 16 * 4096 + b1.toNat % 64 * 64 + b2.toNat % 64 ∧ b.toNat % 16 * 4096 + b1.toNat % 64 * 64 + b2.toNat % 64 ≤ 1114111)))
      · rw [three b1 b2 _ h3.1 h3.2.1 h3.2.2.1 h3.2.2.2]
        exact ⟨by simp, by simp, by simp [cnt, h3.2.1, h3.2.2.1], fun R => by simpa using three b1 b2 R h3.1 h3.2.1 h3.2.2.1 h3.2.2.2⟩
      · by_cases h4 : (b.toNat / 8 = 30 ∧ b1.toNat / 64 = 2 ∧ b2.toNat / 64 = 2 ∧ b3.toNat / 64 = 2) ∧ (b.toNat % 8 * 262144 + b1.toNat % 64 * 4096 + b2.toNat % 64 * 64 + b3.toNat % 64 ≥ 65536 ∧ (b.toNat % 8 * 262144 + b1.toNat % 64 * 4096 + b2.toNat % 64 * 64 + b3.toNat % 64 < 55296 ∨ (57344 ≤ b.toNat % 8 * 262144 + b1.toNat % 64 * 4096 + b2.toNat % 64 * 64 + b3.toNat % 64 ∧ b.toNat % 8 * 262144 + b1.toNat % 64 * 4096 + b2.toNat % 64 * 64 + b3.toNat % 64 ≤ 1114111)))
        · have four : ∀ R, dcd b (b1 :: b2 :: b3 :: R) = (b.toNat % 8 * 262144 + b1.toNat % 64 * 4096 + b2.toNat % 64 * 64 + b3.toNat % 64, 4) := fun R => by
            simp only [dcd, decodeN]
            rw [if_neg hb, if_neg (by omega), if_neg (by omega), if_pos (by omega), if_pos h4.2]
          rw [four]
          exact ⟨by simp, by simp, by simp [cnt, h4.1.2.1, h4.1.2.2.1, h4.1.2.2.2], fun R => by simpa using four R⟩
        · refine absurd ?_ h
          simp only [dcd, decodeN]
          rw [if_neg hb]
          split
          · rw [if_neg (by omega)]; exact ⟨rfl, rfl⟩
          · split
            · rw [if_neg (by omega)]; exact ⟨rfl, rfl⟩
            · split
              · rw [if_neg (by omega)]; exact ⟨rfl, rfl⟩
              · exact ⟨rfl, rfl⟩
/-- What is broken stays so if of the bytes that go on fewer follow. -/
theorem dcd_broken (b : UInt8) (t R : List UInt8) (h : brk (dcd b t)) (hp : R.takeWhile cnt <+: t.takeWhile cnt) : brk (dcd b R) := by
  apply Classical.byContradiction
  intro hg
  obtain ⟨h1, h2, h3, h4⟩ := dcd_good b R hg
  have e1 : R.take ((dcd b R).2 - 1) <+: R.takeWhile cnt := by
    have e : R.takeWhile cnt = R.take ((dcd b R).2 - 1) ++ (R.drop ((dcd b R).2 - 1)).takeWhile cnt := by
      conv => lhs; rw [← List.take_append_drop ((dcd b R).2 - 1) R]
      rw [List.takeWhile_append_of_pos h3]
    rw [e]
    exact List.prefix_append _ _
  obtain ⟨u, hu⟩ := (e1.trans hp).trans (List.takeWhile_prefix cnt)
  rw [← hu, h4 u] at h
  exact hg h
theorem dcd_width (b : UInt8) (t : List UInt8) : 1 ≤ (dcd b t).2 ∧ (dcd b t).2 ≤ t.length + 1 := by
  by_cases h : brk (dcd b t)
  · rw [h.2]; omega
  · exact ⟨(dcd_good b t h).1, (dcd_good b t h).2.1⟩
/-- The rune at the front of a text; of none (0, 1). -/
def rn : List UInt8 → Nat × Nat
  | [] => (0, 1)
  | b :: t => dcd b t
theorem rn_eq {l : List UInt8} (h : l ≠ []) : rn l = decodeL l := by
  cases l with
  | nil => exact absurd rfl h
  | cons b t => exact (decodeL_cons b t).symm
theorem rn_width (l : List UInt8) (h : l ≠ []) : 1 ≤ (rn l).2 ∧ (rn l).2 ≤ l.length := by
  cases l with
  | nil => exact absurd rfl h
  | cons b t => exact dcd_width b t
theorem drop_less (l : List UInt8) (h : l ≠ []) : (l.drop (rn l).2).length < l.length := by
  have := rn_width l h
  rw [List.length_drop]
  omega
/-- A great letter's small one. -/
def smol (r : Nat) : Nat :=
  if (65 ≤ r ∧ r ≤ 90) ∨ (192 ≤ r ∧ r ≤ 222 ∧ r ≠ 215) ∨ (913 ≤ r ∧ r ≤ 937 ∧ r ≠ 930) ∨ (1040 ≤ r ∧ r ≤ 1071) then r + 32
  else if 1024 ≤ r ∧ r ≤ 1039 then r + 80 else r
/-- A rune of one or two bytes. -/
def enc2 (r : Nat) : List UInt8 := if r < 128 then [UInt8.ofNat r] else [UInt8.ofNat (192 + r / 64), UInt8.ofNat (128 + r % 64)]
/-- What stands for the first rune when it is folded. -/
def fp (l : List UInt8) : List UInt8 := if smol (rn l).1 = (rn l).1 then l.take (rn l).2 else enc2 (smol (rn l).1)
def foldL (l : List UInt8) : List UInt8 := if h : l = [] then [] else fp l ++ foldL (l.drop (rn l).2)
termination_by l.length
decreasing_by exact drop_less l h
def countL (l : List UInt8) : Nat := if h : l = [] then 0 else countL (l.drop (rn l).2) + 1
termination_by l.length
decreasing_by exact drop_less l h
def cutL : Nat → List UInt8 → List UInt8
  | 0, _ => []
  | n + 1, l => if l = [] then [] else l.take (rn l).2 ++ cutL n (l.drop (rn l).2)
/-- May a name have these runes? -/
def okR (x : Nat × Nat) : Bool := !(decide (x.1 < 32) || decide (x.1 = 127) || decide (x.1 = 47)) && !decide (brk x)
def runesOk (l : List UInt8) : Bool := if h : l = [] then true else okR (rn l) && runesOk (l.drop (rn l).2)
termination_by l.length
decreasing_by exact drop_less l h
theorem foldL_nil : foldL [] = [] := by rw [foldL]; simp
theorem foldL_cons {l : List UInt8} (h : l ≠ []) : foldL l = fp l ++ foldL (l.drop (rn l).2) := by rw [foldL]; simp [h]
theorem countL_nil : countL [] = 0 := by rw [countL]; simp
theorem countL_cons {l : List UInt8} (h : l ≠ []) : countL l = countL (l.drop (rn l).2) + 1 := by rw [countL]; simp [h]
theorem runesOk_nil : runesOk [] = true := by rw [runesOk]; simp
theorem runesOk_cons {l : List UInt8} (h : l ≠ []) : runesOk l = (okR (rn l) && runesOk (l.drop (rn l).2)) := by rw [runesOk]; simp [h]
theorem cutL_nil (n : Nat) : cutL n [] = [] := by cases n <;> simp [cutL]
theorem cutL_cons {l : List UInt8} (n : Nat) (h : l ≠ []) : cutL (n + 1) l = l.take (rn l).2 ++ cutL n (l.drop (rn l).2) := by rw [cutL]; simp [h]
theorem smol_range (r : Nat) (h : smol r ≠ r) : (97 ≤ smol r ∧ smol r ≤ 122 ∧ r < 128) ∨ (224 ≤ smol r ∧ smol r < 2048 ∧ 192 ≤ r ∧ r < 2048) := by
  unfold smol at *
  split at h
  · rw [if_pos ‹_›]; omega
  · split at h
    · rw [if_neg ‹_›, if_pos ‹_›]; omega
    · exact absurd rfl h
theorem smol_smol (r : Nat) : smol (smol r) = smol r := by
  unfold smol
  split
  · rw [if_neg (by omega), if_neg (by omega)]
  · split
    · rw [if_neg (by omega), if_neg (by omega)]
    · rfl
theorem toNat_small (n : Nat) (h : n < 256) : (UInt8.ofNat n).toNat = n := by simp; omega
theorem rn_enc2 (r : Nat) (h : r < 128 ∨ (128 ≤ r ∧ r < 2048)) (R : List UInt8) : rn (enc2 r ++ R) = (r, (enc2 r).length) := by
  unfold enc2
  rcases h with h | h
  · rw [if_pos h]
    have : (UInt8.ofNat r).toNat = r := toNat_small _ (by omega)
    show dcd (UInt8.ofNat r) R = _
    match R with
    | [] => simp [dcd, this, h]
    | [b1] => simp only [dcd, decodeN, this]; rw [if_pos h]; rfl
    | [b1, b2] => simp only [dcd, decodeN, this]; rw [if_pos h]; rfl
    | b1 :: b2 :: b3 :: r => simp only [dcd, decodeN, this]; rw [if_pos h]; rfl
  · rw [if_neg (by omega)]
    have e0 : (UInt8.ofNat (192 + r / 64)).toNat = 192 + r / 64 := toNat_small _ (by omega)
    have e1 : (UInt8.ofNat (128 + r % 64)).toNat = 128 + r % 64 := toNat_small _ (by omega)
    show dcd (UInt8.ofNat (192 + r / 64)) (UInt8.ofNat (128 + r % 64) :: R) = _
    have g : ∀ n b2 b3, 2 ≤ n → decodeN n (192 + r / 64) (128 + r % 64) b2 b3 = (r, 2) := fun n b2 b3 hn => by
      unfold decodeN
      rw [if_neg (by omega), if_pos (by omega), if_pos (by omega)]
      congr 1
      omega
    match R with
    | [] => simp only [dcd, e0, e1]; exact g _ _ _ (by omega)
    | [b2] => simp only [dcd, e0, e1]; exact g _ _ _ (by omega)
    | b2 :: b3 :: r => simp only [dcd, e0, e1]; exact g _ _ _ (by omega)
theorem dcd_ascii (b : UInt8) (t : List UInt8) (hb : b.toNat < 128) : dcd b t = (b.toNat, 1) := by
  match t with
  | [] => simp [dcd, hb]
  | [b1] => simp [dcd, decodeN, hb]
  | [b1, b2] => simp [dcd, decodeN, hb]
  | b1 :: b2 :: b3 :: r => simp [dcd, decodeN, hb]
/-- How wide a rune below 2048 is. -/
theorem width_small (l : List UInt8) (h : l ≠ []) (hr : (rn l).1 < 2048) : (rn l).2 = if (rn l).1 < 128 then 1 else 2 := by
  cases l with
  | nil => exact absurd rfl h
  | cons b t =>
    show (dcd b t).2 = if (dcd b t).1 < 128 then 1 else 2
    have hr : (dcd b t).1 < 2048 := hr
    by_cases hb : b.toNat < 128
    · rw [dcd_ascii b t hb]; simp [hb]
    · have g : ∀ n b1 b2 b3, (decodeN n b.toNat b1 b2 b3).1 < 2048 → (decodeN n b.toNat b1 b2 b3).2 = if (decodeN n b.toNat b1 b2 b3).1 < 128 then 1 else 2 := fun n b1 b2 b3 => by
        unfold decodeN
        rw [if_neg hb]
        repeat' split
        all_goals (intro hh; first | rfl | (simp only [] at hh ⊢; first | omega | (split <;> omega)) | (simp only [] at hh ⊢) | omega)
      match t, hr with
      | [], hr => simp [dcd, hb] at hr
      | [b1], hr => exact g _ _ _ _ hr
      | [b1, b2], hr => exact g _ _ _ _ hr
      | b1 :: b2 :: b3 :: r, hr => exact g _ _ _ _ hr
theorem fp_len (l : List UInt8) (h : l ≠ []) : (fp l).length = (rn l).2 := by
  have hw := rn_width l h
  unfold fp
  split
  · rw [List.length_take]; omega
  · rename_i hs
    have hr := smol_range _ hs
    rw [width_small l h (by omega)]
    unfold enc2
    split <;> split <;> simp <;> omega
/-- A byte that goes on is broken where a rune should begin. -/
theorem dcd_cnt (b : UInt8) (t : List UInt8) (h : cnt b = true) : dcd b t = (65533, 1) := by
  rw [cnt_iff] at h
  have g : ∀ n b1 b2 b3, decodeN n b.toNat b1 b2 b3 = (65533, 1) := fun n b1 b2 b3 => by
    unfold decodeN
    rw [if_neg (by omega), if_neg (by omega), if_neg (by omega), if_neg (by omega)]
  match t with
  | [] => simp only [dcd]; rw [if_neg (by omega)]
  | [b1] => exact g _ _ _ _
  | [b1, b2] => exact g _ _ _ _
  | b1 :: b2 :: b3 :: r => exact g _ _ _ _
theorem smol_bad : smol 65533 = 65533 := by decide
theorem fp_brk (b : UInt8) (t : List UInt8) (h : brk (dcd b t)) : fp (b :: t) = [b] := by
  have e : rn (b :: t) = (65533, 1) := Prod.ext h.1 h.2
  unfold fp
  rw [e, if_pos smol_bad]
  rfl
/-- Folding leaves the bytes that go on ahead of the first that doesn't. -/
theorem fold_cnt : ∀ (n : Nat) (l : List UInt8), l.length ≤ n → (foldL l).takeWhile cnt = l.takeWhile cnt
  | 0, l, hn => by
    obtain rfl : l = [] := List.length_eq_zero_iff.1 (by omega)
    rw [foldL_nil]
  | n + 1, [], hn => by rw [foldL_nil]
  | n + 1, b :: t, hn => by
    have hne : b :: t ≠ [] := by simp
    rw [foldL_cons hne]
    by_cases hc : cnt b = true
    · have e : rn (b :: t) = (65533, 1) := dcd_cnt b t hc
      have hb : brk (dcd b t) := by rw [dcd_cnt b t hc]; exact ⟨rfl, rfl⟩
      rw [fp_brk b t hb, e]
      simp only [List.drop_succ_cons, List.drop_zero, List.singleton_append]
      rw [List.takeWhile_cons_of_pos hc, List.takeWhile_cons_of_pos hc, fold_cnt n t (by simpa using hn)]
    · rw [List.takeWhile_cons_of_neg hc]
      have : ∃ x r, fp (b :: t) = x :: r ∧ ¬ cnt x = true := by
        unfold fp
        have hw := rn_width (b :: t) hne
        split
        · obtain ⟨k, hk⟩ : ∃ k, (rn (b :: t)).2 = k + 1 := ⟨(rn (b :: t)).2 - 1, by omega⟩
          rw [hk]
          exact ⟨b, _, rfl, hc⟩
        · rename_i hs
          have hr := smol_range _ hs
          unfold enc2
          split
          · refine ⟨_, _, rfl, ?_⟩
            rw [cnt_iff, toNat_small _ (by omega)]
            omega
          · refine ⟨_, _, rfl, ?_⟩
            rw [cnt_iff, toNat_small _ (by omega)]
            omega
      obtain ⟨x, r, hx, hn⟩ := this
      rw [hx, List.cons_append, List.takeWhile_cons_of_neg hn]
/-- The rune of what stands for the first one. -/
theorem rn_fp (l R : List UInt8) (h : l ≠ []) (hR : ∀ b t, l = b :: t → brk (dcd b t) → R.takeWhile cnt <+: t.takeWhile cnt) : rn (fp l ++ R) = (smol (rn l).1, (rn l).2) := by
  cases l with
  | nil => exact absurd rfl h
  | cons b t =>
    by_cases hb : brk (dcd b t)
    · rw [fp_brk b t hb]
      have e : rn (b :: t) = (65533, 1) := Prod.ext hb.1 hb.2
      rw [e, smol_bad]
      have := dcd_broken b t R hb (hR b t rfl hb)
      exact Prod.ext this.1 this.2
    · have hg := dcd_good b t hb
      by_cases hs : smol (rn (b :: t)).1 = (rn (b :: t)).1
      · unfold fp
        rw [if_pos hs, hs]
        show rn ((b :: t).take (dcd b t).2 ++ R) = (dcd b t)
        obtain ⟨k, hk⟩ : ∃ k, (dcd b t).2 = k + 1 := ⟨(dcd b t).2 - 1, by omega⟩
        have h4 := hg.2.2.2 R
        rw [hk] at h4 ⊢
        exact h4
      · have hl := fp_len (b :: t) h
        unfold fp at *
        rw [if_neg hs] at *
        have hr := smol_range _ hs
        rw [rn_enc2 _ (by omega), hl]
theorem drop_fp (l R : List UInt8) (h : l ≠ []) : (fp l ++ R).drop (rn l).2 = R := by
  rw [← fp_len l h, List.drop_left]
theorem fp_ne (l : List UInt8) (h : l ≠ []) (R : List UInt8) : fp l ++ R ≠ [] := by
  have := fp_len l h
  have := rn_width l h
  intro e
  have : (fp l ++ R).length = 0 := by rw [e]; rfl
  rw [List.length_append] at this
  omega
theorem brk_tail {b : UInt8} {t : List UInt8} (h : brk (dcd b t)) : (b :: t).drop (rn (b :: t)).2 = t := by
  show (b :: t).drop (dcd b t).2 = t
  rw [h.2]
  rfl
/-- The folded text's first rune. -/
theorem rn_fold (l : List UInt8) (h : l ≠ []) : rn (foldL l) = (smol (rn l).1, (rn l).2) := by
  rw [foldL_cons h]
  refine rn_fp l _ h fun b t e hb => ?_
  subst e
  rw [brk_tail hb, fold_cnt t.length t (Nat.le_refl _)]
  exact List.prefix_rfl
theorem fold_ne (l : List UInt8) (h : l ≠ []) : foldL l ≠ [] := by rw [foldL_cons h]; exact fp_ne l h _
theorem fold_drop (l : List UInt8) (h : l ≠ []) : (foldL l).drop (rn l).2 = foldL (l.drop (rn l).2) := by
  rw [foldL_cons h, drop_fp l _ h]
theorem fold_take (l : List UInt8) (h : l ≠ []) : (foldL l).take (rn l).2 = fp l := by
  rw [foldL_cons h, ← fp_len l h, List.take_left]
/-- What stands for a folded rune is itself. -/
theorem fp_fold (l : List UInt8) (h : l ≠ []) : fp (foldL l) = fp l := by
  have e := rn_fold l h
  have : fp (foldL l) = (foldL l).take (rn l).2 := by
    conv => lhs; unfold fp
    rw [e, if_pos (smol_smol _)]
  rw [this, fold_take l h]
theorem fold_fold : ∀ (n : Nat) (l : List UInt8), l.length ≤ n → foldL (foldL l) = foldL l
  | 0, l, hn => by
    obtain rfl : l = [] := List.length_eq_zero_iff.1 (by omega)
    rw [foldL_nil, foldL_nil]
  | n + 1, l, hn => by
    by_cases h : l = []
    · subst h; rw [foldL_nil, foldL_nil]
    · rw [foldL_cons (fold_ne l h), fp_fold l h, rn_fold l h]
      show fp l ++ foldL ((foldL l).drop (rn l).2) = _
      have := drop_less l h
      rw [fold_drop l h, fold_fold n _ (by omega), ← foldL_cons h]
theorem count_fold : ∀ (n : Nat) (l : List UInt8), l.length ≤ n → countL (foldL l) = countL l
  | 0, l, hn => by
    obtain rfl : l = [] := List.length_eq_zero_iff.1 (by omega)
    rw [foldL_nil]
  | n + 1, l, hn => by
    by_cases h : l = []
    · subst h; rw [foldL_nil]
    · rw [countL_cons (fold_ne l h), rn_fold l h, countL_cons h]
      show countL ((foldL l).drop (rn l).2) + 1 = _
      have := drop_less l h
      rw [fold_drop l h, count_fold n _ (by omega)]
theorem cut_prefix : ∀ (n : Nat) (l : List UInt8), cutL n l <+: l
  | 0, l => by rw [cutL]; exact List.nil_prefix
  | n + 1, l => by
    by_cases h : l = []
    · subst h; rw [cutL_nil]; exact List.prefix_rfl
    · rw [cutL_cons n h]
      obtain ⟨u, hu⟩ := cut_prefix n (l.drop (rn l).2)
      refine ⟨u, ?_⟩
      rw [List.append_assoc, hu, List.take_append_drop]
theorem takeWhile_prefix_of {p : UInt8 → Bool} {a b : List UInt8} (h : a <+: b) : a.takeWhile p <+: b.takeWhile p := by
  obtain ⟨u, rfl⟩ := h
  induction a with
  | nil => simp
  | cons x t ih =>
    by_cases hx : p x = true
    · rw [List.cons_append, List.takeWhile_cons_of_pos hx, List.takeWhile_cons_of_pos hx]
      exact List.cons_prefix_cons.2 ⟨rfl, ih⟩
    · rw [List.cons_append, List.takeWhile_cons_of_neg hx]
      simp
/-- A text that is cut has its first rune. -/
theorem rn_cut (l : List UInt8) (n : Nat) (h : l ≠ []) : rn (cutL (n + 1) l) = rn l := by
  rw [cutL_cons n h]
  cases l with
  | nil => exact absurd rfl h
  | cons b t =>
    by_cases hb : brk (dcd b t)
    · have e : rn (b :: t) = (65533, 1) := Prod.ext hb.1 hb.2
      rw [brk_tail hb, e]
      have := dcd_broken b t (cutL n t) hb (takeWhile_prefix_of (cut_prefix n t))
      exact Prod.ext this.1 this.2
    · have hg := dcd_good b t hb
      show rn ((b :: t).take (dcd b t).2 ++ _) = (dcd b t)
      obtain ⟨k, hk⟩ : ∃ k, (dcd b t).2 = k + 1 := ⟨(dcd b t).2 - 1, by omega⟩
      have h4 := hg.2.2.2 (cutL n ((b :: t).drop (rn (b :: t)).2))
      rw [hk] at h4 ⊢
      exact h4
theorem cut_ne (l : List UInt8) (n : Nat) (h : l ≠ []) : cutL (n + 1) l ≠ [] := by
  have hw := rn_width l h
  intro e
  have := congrArg List.length e
  rw [cutL_cons n h, List.length_append, List.length_take, List.length_nil] at this
  omega
theorem cut_drop (l : List UInt8) (n : Nat) (h : l ≠ []) : (cutL (n + 1) l).drop (rn l).2 = cutL n (l.drop (rn l).2) := by
  have hw := rn_width l h
  rw [cutL_cons n h, List.drop_append, List.drop_of_length_le (by rw [List.length_take]; omega), List.length_take, Nat.min_eq_left hw.2, Nat.sub_self]
  simp
theorem cut_take (l : List UInt8) (n : Nat) (h : l ≠ []) : (cutL (n + 1) l).take (rn l).2 = l.take (rn l).2 := by
  have hw := rn_width l h
  rw [cutL_cons n h, List.take_append, List.take_of_length_le (by rw [List.length_take]; omega), List.length_take, Nat.min_eq_left hw.2, Nat.sub_self]
  simp
theorem fold_cut : ∀ (n : Nat) (l : List UInt8), foldL (cutL n l) = cutL n (foldL l)
  | 0, l => by rw [cutL, cutL, foldL_nil]
  | n + 1, l => by
    by_cases h : l = []
    · subst h; rw [cutL_nil, foldL_nil, cutL_nil]
    · have e : fp (cutL (n + 1) l) = fp l := by
        unfold fp
        rw [rn_cut l n h, cut_take l n h]
      rw [foldL_cons (cut_ne l n h), e, rn_cut l n h, cut_drop l n h, fold_cut n, cutL_cons n (fold_ne l h), rn_fold l h]
      show _ = (foldL l).take (rn l).2 ++ cutL n ((foldL l).drop (rn l).2)
      rw [fold_take l h, fold_drop l h]
theorem count_cut : ∀ (n : Nat) (l : List UInt8), countL (cutL n l) = min n (countL l)
  | 0, l => by rw [cutL, countL_nil]; omega
  | n + 1, l => by
    by_cases h : l = []
    · subst h; rw [cutL_nil, countL_nil]; omega
    · rw [countL_cons (cut_ne l n h), rn_cut l n h, cut_drop l n h, count_cut n, countL_cons h]
      omega
theorem okR_iff (x : Nat × Nat) : okR x = true ↔ 32 ≤ x.1 ∧ x.1 ≠ 127 ∧ x.1 ≠ 47 ∧ ¬ brk x := by
  unfold okR
  by_cases hb : brk x
  · simp [hb]
  · simp [hb]
    omega
theorem okR_smol (x : Nat × Nat) (h : okR x = true) : okR (smol x.1, x.2) = true := by
  rw [okR_iff] at *
  by_cases hs : smol x.1 = x.1
  · rw [hs]; exact h
  · have := smol_range _ hs
    refine ⟨by show 32 ≤ smol x.1; omega, by show smol x.1 ≠ 127; omega, by show smol x.1 ≠ 47; omega, fun hb => ?_⟩
    have : smol x.1 = 65533 := hb.1
    omega
theorem ok_fold : ∀ (n : Nat) (l : List UInt8), l.length ≤ n → runesOk l = true → runesOk (foldL l) = true
  | 0, l, hn, _ => by
    obtain rfl : l = [] := List.length_eq_zero_iff.1 (by omega)
    rw [foldL_nil, runesOk_nil]
  | n + 1, l, hn, ho => by
    by_cases h : l = []
    · subst h; rw [foldL_nil, runesOk_nil]
    · rw [runesOk_cons h, Bool.and_eq_true] at ho
      have := drop_less l h
      rw [runesOk_cons (fold_ne l h), rn_fold l h, okR_smol _ ho.1]
      show (true && runesOk ((foldL l).drop (rn l).2)) = true
      rw [fold_drop l h, ok_fold n _ (by omega) ho.2]
      rfl
theorem fold_len : ∀ (n : Nat) (l : List UInt8), l.length ≤ n → (foldL l).length = l.length
  | 0, l, hn => by
    obtain rfl : l = [] := List.length_eq_zero_iff.1 (by omega)
    rw [foldL_nil]
  | n + 1, l, hn => by
    by_cases h : l = []
    · subst h; rw [foldL_nil]
    · have := drop_less l h
      have hw := rn_width l h
      rw [foldL_cons h, List.length_append, fp_len l h, fold_len n _ (by omega), List.length_drop]
      omega
/-- A folded text that begins with a dot began with one. -/
theorem fold_dot (l r : List UInt8) (h : foldL l = 46 :: r) : ∃ t, l = 46 :: t ∧ foldL t = r := by
  have hne : l ≠ [] := fun e => by subst e; rw [foldL_nil] at h; cases h
  cases l with
  | nil => exact absurd rfl hne
  | cons b t =>
    rw [foldL_cons hne] at h
    have hw := rn_width (b :: t) hne
    by_cases hs : smol (rn (b :: t)).1 = (rn (b :: t)).1
    · have e : fp (b :: t) = (b :: t).take (rn (b :: t)).2 := by unfold fp; rw [if_pos hs]
      obtain ⟨k, hk⟩ : ∃ k, (rn (b :: t)).2 = k + 1 := ⟨(rn (b :: t)).2 - 1, by omega⟩
      rw [e, hk, List.take_succ_cons, List.cons_append] at h
      injection h with h1 h2
      subst h1
      have ea : rn (46 :: t) = (46, 1) := dcd_ascii 46 t (by decide)
      rw [ea] at hk
      obtain rfl : k = 0 := by simpa using hk.symm
      exact ⟨t, rfl, by simpa using h2⟩
    · have hr := smol_range _ hs
      unfold fp at h
      rw [if_neg hs] at h
      unfold enc2 at h
      split at h
      · injection h with h1 h2
        have := congrArg UInt8.toNat h1
        rw [toNat_small _ (by omega)] at this
        have e46 : (46 : UInt8).toNat = 46 := rfl
        omega
      · injection h with h1 h2
        have := congrArg UInt8.toNat h1
        rw [toNat_small _ (by omega)] at this
        have e46 : (46 : UInt8).toNat = 46 := rfl
        omega
theorem fold_dot1 (l : List UInt8) (h : foldL l = [46]) : l = [46] := by
  obtain ⟨t, rfl, ht⟩ := fold_dot l [] h
  by_cases e : t = []
  · rw [e]
  · exact absurd ht (fold_ne t e)
theorem fold_dot2 (l : List UInt8) (h : foldL l = [46, 46]) : l = [46, 46] := by
  obtain ⟨t, rfl, ht⟩ := fold_dot l [46] h
  rw [fold_dot1 t ht]
end Go.Proofs.YtkgjepgaekbniaaDoor
