/- The bytes of a row of bits, filled in from the end on: plain mathematics, no program. -/
import Derived.Test.YthkppipdflmekaaGreatQPutA
import Derived.Laws.CopyOwn
import Derived.Laws.BytesArg
namespace Go.Proofs.YthkppipdflmekaaGreat
open Go Go.RowKit
set_option linter.unusedVariables false
def qb8 (L : List Bool) : ByteArray := ⟨(qhd L).toArray⟩
theorem qgn (L : List Bool) : (qb8 L).data.toList = qhd L := rfl
theorem qdt (L : List Bool) : (qb8 L).size = (L.length + 7) / 8 := by
 have : (qb8 L).size = (qhd L).length := rfl
 rw [this, qio]
def outC (L : List Bool) (n k : Nat) : List Value := (List.range n).map fun j => if j < k then .int .u8 0 else .int .u8 ((qbe L j).toNat : Int)
theorem qez (L : List Bool) (n k : Nat) : (outC L n k).length = n := by simp [outC]
theorem qit (L : List Bool) (n k j : Nat) (h : j < n) : (outC L n k)[j]? = some (if j < k then .int .u8 0 else .int .u8 ((qbe L j).toNat : Int)) := by simp [outC, h]
theorem qtm (L : List Bool) (n : Nat) : outC L n n = List.replicate n (.int .u8 0) := by
 apply List.ext_getElem?
 intro j
 by_cases h : j < n
 · rw [qit _ _ _ _ h, if_pos h, List.getElem?_replicate, if_pos h]
 · rw [List.getElem?_eq_none (by rw [qez]; omega), List.getElem?_eq_none (by simp; omega)]
theorem qis (L : List Bool) (n k c : Nat) (hc : c ≤ 64) (hk : k + c ≤ n) : splice (outC L n (k + c)) k ((qb1 L k).take c) = outC L n k := by
 unfold splice
 have hl : ((qb1 L k).take c).length = c := by rw [List.length_take, qbn]; omega
 have hl2 : ((outC L n (k + c)).take k).length = k := by rw [List.length_take, qez]; omega
 rw [hl]
 apply List.ext_getElem?
 intro j
 by_cases h : j < n
 · rw [qit _ _ _ _ h]
   by_cases h1 : j < k
   · rw [List.getElem?_append_left (by rw [hl2]; omega), List.getElem?_take, if_pos h1, qit _ _ _ _ h, if_pos (by omega), if_pos h1]
   · rw [List.getElem?_append_right (by rw [hl2]; omega), hl2, if_neg h1]
     by_cases h2 : j < k + c
     · rw [List.getElem?_append_left (by rw [hl]; omega), List.getElem?_take, if_pos (by omega), qf2 _ _ _ (by omega), show k + (j - k) = j by omega]
     · rw [List.getElem?_append_right (by rw [hl]; omega), hl, List.getElem?_drop, show k + c + (j - k - c) = j by omega, qit _ _ _ _ h, if_neg h2]
 · rw [List.getElem?_eq_none (by rw [List.length_append, List.length_append, hl2, List.length_drop, hl, qez]; omega), List.getElem?_eq_none (by rw [qez]; omega)]
theorem qz5 {P : Program} {w : World} {g : Nat} {src dst e : TypeId} {L : List Bool} {n cap : Nat} {ty : TypeId} (hs : P.underlying src = some (.slice e)) (he : P.underlying e = some (.int .u8)) (hd : P.underlying dst = some .string)
    (hn : n = (L.length + 7) / 8) (h : w.heap[g]? = some (.cells (outC L n 0).toArray ty (0, 0))) : (convert src dst (.slice (some ⟨g, 0, none⟩) n cap)).run P w = .ok (.string (qb8 L)) w := by
 subst hn
 have e1 : qb8 L = strOfNums ((qhd L).map fun x : UInt8 => (x.toNat : Int)) := by
  unfold qb8 strOfNums
  rw [List.map_map]
  congr 2
  have : ((fun n : Int => UInt8.ofNat n.toNat) ∘ fun x : UInt8 => (x.toNat : Int)) = id := by funext x; simp
  rw [this, List.map_id]
 rw [e1]
 refine run_convert_bytes_arg w src e hs he g 0 _ cap _ (by rw [List.length_map, qio]) (fun i hi => ?_) dst hd
 rw [cell_of_row _ _ _ _ _ _ h, Nat.zero_add, List.getElem?_toArray, qit _ _ _ _ hi, if_neg (Nat.not_lt_zero _)]
 simp [qhd, hi]
end Go.Proofs.YthkppipdflmekaaGreat
