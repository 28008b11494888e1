/- SHA-256 of a text, block by block, as the program reckons it: plain mathematics, no program. -/
import Derived.Test.YtlnagnkiadlfpaaDoorShaM
import Derived.Test.YtlnagnkiadlfpaaDoorBase
namespace Go.Proofs.YtlnagnkiadlfpaaDoor
open Go
set_option linter.unusedVariables false

def iv : S8 := ⟨1779033703, 3144134277, 1013904242, 2773480762, 1359893119, 2600822924, 528734635, 1541459225⟩
theorem iv_ok : iv.ok := by unfold S8.ok iv; decide
theorem mixN_ok (s : S8) (b : List UInt8) : (mixN s b).ok := plus_ok _ _
/-- The words behind all whole blocks of a text, and what is left of it. -/
def mixL (s : S8) (l : List UInt8) : S8 × List UInt8 :=
  if h : 64 ≤ l.length then mixL (mixN s (l.take 64)) (l.drop 64) else (s, l)
termination_by l.length
decreasing_by simp; omega
theorem mixL_step (s : S8) (l : List UInt8) (h : 64 ≤ l.length) : mixL s l = mixL (mixN s (l.take 64)) (l.drop 64) := by
  rw [mixL]; simp [h]
theorem mixL_end (s : S8) (l : List UInt8) (h : l.length < 64) : mixL s l = (s, l) := by
  rw [mixL]; simp [show ¬ 64 ≤ l.length by omega]
theorem mixL_ind (p : S8 → List UInt8 → Prop) (h1 : ∀ s l, 64 ≤ l.length → p (mixN s (l.take 64)) (l.drop 64) → p s l) (h2 : ∀ s l, l.length < 64 → p s l) : ∀ n s l, l.length ≤ n → p s l
  | 0, s, l, h => h2 s l (by omega)
  | n + 1, s, l, h => by
    by_cases hl : 64 ≤ l.length
    · exact h1 s l hl (mixL_ind p h1 h2 n _ _ (by simp; omega))
    · exact h2 s l (by omega)
theorem mixL_ok (s : S8) (l : List UInt8) (hs : s.ok) : (mixL s l).1.ok := by
  refine mixL_ind (fun s l => s.ok → (mixL s l).1.ok) (fun s l h ih hs => ?_) (fun s l h hs => ?_) l.length s l (Nat.le_refl _) hs
  · rw [mixL_step s l h]; exact ih (mixN_ok _ _)
  · rw [mixL_end s l h]; exact hs
theorem mixL_left (s : S8) (l : List UInt8) : (mixL s l).2.length = l.length % 64 := by
  refine mixL_ind (fun s l => (mixL s l).2.length = l.length % 64) (fun s l h ih => ?_) (fun s l h => ?_) l.length s l (Nat.le_refl _)
  · rw [mixL_step s l h, ih]; simp; omega
  · rw [mixL_end s l h]; simp only; omega
theorem mixL_append (s : S8) (l m : List UInt8) : mixL s (l ++ m) = mixL (mixL s l).1 ((mixL s l).2 ++ m) := by
  refine mixL_ind (fun s l => mixL s (l ++ m) = mixL (mixL s l).1 ((mixL s l).2 ++ m)) (fun s l h ih => ?_) (fun s l h => ?_) l.length s l (Nat.le_refl _)
  · rw [mixL_step s (l ++ m) (by simp; omega), mixL_step s l h, List.take_append_of_le_length h, List.drop_append_of_le_length h, ih]
  · rw [mixL_end s l h]
/-- What fills the last block of a text of n bytes. -/
def padL (n : Nat) : List UInt8 := 128 :: List.replicate ((119 - n % 64) % 64) 0 ++ (List.range 8).map fun i => UInt8.ofNat (n * 8 / 2 ^ (56 - 8 * i))
theorem padL_len (n : Nat) : (padL n).length = 9 + (119 - n % 64) % 64 := by simp [padL]; omega
/-- The words of a text's sum. -/
def shaW (l : List UInt8) : S8 := (mixL iv (l ++ padL l.length)).1
theorem shaW_ok (l : List UInt8) : (shaW l).ok := mixL_ok _ _ iv_ok
/-- A word's four bytes, the highest first. -/
def wb (x : Nat) : List Nat := [x / 16777216 % 256, x / 65536 % 256, x / 256 % 256, x % 256]
/-- The sum's bytes. -/
def shaB (l : List UInt8) : List Nat := (shaW l).list.flatMap wb
theorem shaB_len (l : List UInt8) : (shaB l).length = 32 := rfl
/-- The sum of a text, as a text. -/
def shaS (l : List UInt8) : ByteArray := bs (shaB l)
theorem padded (l : List UInt8) : (l.length + (padL l.length).length) % 64 = 0 := by rw [padL_len]; omega
/-- A text of these bytes. -/
def tx (l : List UInt8) : ByteArray := ⟨l.toArray⟩
theorem tx_data (l : List UInt8) : (tx l).data.toList = l := rfl
theorem tx_size (l : List UInt8) : (tx l).size = l.length := rfl
theorem tx_of (s : ByteArray) : tx s.data.toList = s := rfl
theorem tx_append (l m : List UInt8) : tx l ++ tx m = tx (l ++ m) := by
  apply ByteArray.ext; simp [tx, ByteArray.data_append]
theorem size_data (s : ByteArray) : s.data.toList.length = s.size := rfl
theorem ext_data (s : ByteArray) (a b : Nat) : (s.extract a b).data.toList = (s.data.toList.drop a).take (b - a) := by
  rw [ByteArray.data_extract, Array.toList_extract]
end Go.Proofs.YtlnagnkiadlfpaaDoor
