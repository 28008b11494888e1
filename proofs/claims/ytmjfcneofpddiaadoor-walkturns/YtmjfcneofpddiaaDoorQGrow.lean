/- Small facts on texts made of bytes, and on a row of one's own. Worlds that grow but for one block. -/
import Derived.Test.YtmjfcneofpddiaaDoorQKeep
import Derived.Test.YtmjfcneofpddiaaDoorQCrcM
import Derived.Test.YtmjfcneofpddiaaDoorQVarM
import Derived.Laws.OwnMore
import Derived.WalkSmall
namespace Go.Proofs.YtmjfcneofpddiaaDoor
open Go.RowKit
set_option linter.unusedVariables false
theorem extract_data (s : ByteArray) (a b : Nat) : (s.extract a b).data.toList = (s.data.toList.drop a).take (b - a) := by
  rw [ByteArray.data_extract, Array.toList_extract]
theorem few_data (s : ByteArray) (n : Nat) : (s.extract 0 n).data.toList = s.data.toList.take n := by rw [extract_data]; simp
theorem size_toList (s : ByteArray) : s.data.toList.length = s.size := by simp
theorem few_size (s : ByteArray) (n : Nat) : (s.extract 0 n).size = min n s.size := by
  rw [← size_toList, few_data, List.length_take, size_toList]
theorem ba_ext {a b : ByteArray} (h : a.data.toList = b.data.toList) : a = b := by
  cases a; cases b; congr 1; exact Array.toList_inj.1 h
theorem few_all (s : ByteArray) (n : Nat) (h : s.size ≤ n) : s.extract 0 n = s := by
  apply ba_ext; rw [few_data, List.take_of_length_le (by rw [size_toList]; exact h)]
theorem own_frm0 {w : World} {base : Nat} {e : TypeId} {sz n : Nat} {v : Value} {xs : List Value} (h : w.ownsRow base e sz v n xs) (hn : 0 < n) : ∃ g cap, v = .slice (some ⟨g, 0, none⟩) n cap ∧ base ≤ g ∧ n ≤ cap ∧ g < w.heap.size := by
  have hl := h.lt
  rcases h.2 with ⟨_, h0⟩ | ⟨g, cap, cur, rfl, hg, _, hc, _⟩
  · omega
  · exact ⟨g, cap, rfl, hg, hc, (hl g rfl).2⟩
theorem bs_data2 (l : List Nat) : (bs l).data.toList = l.map UInt8.ofNat := by simp [bs, strOfNums]
theorem bs_append2 (a b : List Nat) : bs a ++ bs b = bs (a ++ b) := by
  apply ba_ext
  rw [bs_data2, List.map_append, ← bs_data2, ← bs_data2]
  simp [ByteArray.data_append]
theorem bs_size2 (l : List Nat) : (bs l).size = l.length := by rw [← size_toList, bs_data2, List.length_map]
theorem ofNat_map (q : List UInt8) : (q.map UInt8.toNat).map UInt8.ofNat = q := by simp [Function.comp_def]
end Go.Proofs.YtmjfcneofpddiaaDoor
namespace Go.Proofs.YtmjfcneofpddiaaDoor
open Go.RowKit
set_option linter.unusedVariables false

theorem gtrans {a b c : World} {row : Option Nat} (h : a.grownBy b row) (k : b.grownBy c row) : a.grownBy c row :=
  ⟨k.os.trans h.os, k.tape.trans h.tape, k.output.trans h.output, Nat.le_trans h.size k.size, fun i hi hn => (k.block i (Nat.lt_of_lt_of_le hi h.size) hn).trans (h.block i hi hn)⟩
theorem grefl (w : World) (row : Option Nat) : w.grownBy w row := World.grownBy.refl w row
theorem gdrewN {a b : World} {row : Option Nat} (h : a.grownBy b row) (n : Nat) : a.grownBy (b.drewN n) row := ⟨h.os, h.tape, h.output, h.size, h.block⟩
theorem gdrew {a b : World} {row : Option Nat} (h : a.grownBy b row) : a.grownBy b.drew row := ⟨h.os, h.tape, h.output, h.size, h.block⟩
theorem gset {a b : World} {g : Nat} (h : a.grownBy b (some g)) (j : Nat) (v : Value) : a.grownBy (b.setCell ⟨g, j, none⟩ v) (some g) :=
  gtrans h ⟨rfl, rfl, rfl, by simp, fun k hk hne => heap_setCell_other _ _ _ _ (fun e => hne (by rw [e]))⟩
theorem galloc {a b : World} {row : Option Nat} (h : a.grownBy b row) (o : Obj) : a.grownBy (b.alloc o) row := gtrans h (World.grownBy_alloc b o row)
theorem gbelow {a b : World} {row : Option Nat} (h : Below a.heap.size a b) : a.grownBy b row := ⟨h.os, h.tape, h.output, h.size, fun k hk _ => h.block k hk⟩
theorem grown_below {B : Nat} {a b c : World} {g : Nat} (h : Below B a b) (k : b.grownBy c (some g)) (hB : B ≤ b.heap.size) (hg : B ≤ g) : Below B a c := h.grown k hB (fun j hj => by cases hj; exact hg)

end Go.Proofs.YtmjfcneofpddiaaDoor
