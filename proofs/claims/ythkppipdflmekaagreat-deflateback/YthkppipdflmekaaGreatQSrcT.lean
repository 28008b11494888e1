/- Contract of (*bitio.Source).Text. -/
import Derived.Test.YthkppipdflmekaaGreatRows
import Derived.Test.YthkppipdflmekaaGreatQHuffM
import Derived.Test.YthkppipdflmekaaGreatQPutA
import Derived.Lib.UnsafeStr
import Derived.Lib.Strings
import Derived.Lib.Walk
import Derived.Lib.BufferWrite
import Derived.Laws.MakeOwn
import Derived.Deep.WholeRow
import Derived.Test.YthkppipdflmekaaGreatQSrcE
set_option maxRecDepth 100000
set_option maxHeartbeats 1000000
namespace Go.Proofs.YthkppipdflmekaaGreat
open Go.RowKit
set_option linter.unusedVariables false
theorem qpt (s : ByteArray) (w : World) (hlim : s.size ≤ 140737488351232) :
    Calls Tryz.prog 124 #[.string s] w fun e w' => e = .returned (.string s) ∧ Below w.heap.size w w' := by
 by_cases h0 : s.size = 0
 · have hs : s = ⟨#[]⟩ := by
     apply ByteArray.ext
     exact Array.eq_empty_of_size_eq_zero h0
   subst hs
   go_enter Tryz.func124, Tryz.ntmps124
   go_wp2
   go_ret
   exact ⟨rfl, Below.refl _ _⟩
 · obtain ⟨i0, hi, hz0, hz1, hz2⟩ := info_parts Tryz.infoU8
   have hinfo : (Tryz.prog.info? 5).map (·.size) = some 1 := by rw [hi]; simp [hz1]
   have hco : Tryz.prog.cellsOf 5 = 1 := by simp [Program.cellsOf, hi, hz1]
   obtain ⟨M, hM⟩ : ∃ M, M = madeCells (Value.int .u8 0).cells (((s.size : Nat) : Int).toNat * i0.size) := ⟨_, rfl⟩
   have hMs : M.size = s.size := by rw [hM, size_madeCells, hz1]; simp
   have hmk : ∀ W : World, (Instr.makeSlice 54 (.int .i64 (s.size : Int)) (.int .i64 (s.size : Int))).run Tryz.prog W = .ok (.slice (some ⟨W.heap.size, 0, none⟩) s.size s.size) (W.alloc (.cells M 5)) := fun W => by
    have h := run_make (P := Tryz.prog) W 54 5 i0 (.int .u8 0) Tryz.underlying54 hi hz0 .i64 .i64 (s.size : Int) (s.size : Int) (by omega) (by omega) (by rw [hz2]; omega) (by omega)
    rw [← hM] at h
    simpa using h
   clear hM
   have hcp := Lib.run_copy_row_string (P := Tryz.prog) (w.alloc (.cells M 5)) 54 9 3 5 w.heap.size 0 s.size s.size s M 5 Tryz.underlying54 hinfo (heap_alloc_new w _) (Nat.le_refl _) (by omega)
   obtain ⟨Y, hY⟩ : ∃ Y, Y = (M.toList.take 0 ++ Lib.byteCells s.data.toList ++ M.toList.drop (0 + s.size)).toArray := ⟨_, rfl⟩
   rw [← hY] at hcp
   have hYl : Y.toList = Lib.byteCells s.data.toList := by
    rw [hY, List.toList_toArray, List.take_zero, List.nil_append, List.drop_of_length_le (by rw [Array.length_toList]; omega), List.append_nil]
   have hYs : Y.size = s.size := by rw [← Array.length_toList, hYl, Lib.byteCells_length, ← Lib.size_eq]
   have hgY : ((w.alloc (.cells M 5)).setRow w.heap.size Y).heap[w.heap.size]? = some (.cells Y 5 (0, 0)) := setRow_heap _ _ M _ 5 (0, 0) (heap_alloc_new w _)
   have hne : s.data.toList ≠ [] := fun e => h0 (by rw [Lib.size_eq, e]; rfl)
   have hUS := Lib.run_unsafeString_row (P := Tryz.prog) ((w.alloc (.cells M 5)).setRow w.heap.size Y) 138 3 9 5 Tryz.underlying138 hco w.heap.size Y.size (by unfold World.shape?; rw [hgY]) s.data.toList hne (by rw [← Lib.size_eq]; omega) (by rw [← Lib.size_eq]; omega)
    (fun j x hx => Lib.cells_of_row hgY Y.size j _ (by rw [List.take_of_length_le (by rw [Array.length_toList]; exact Nat.le_refl _), hYl]; simp [Lib.byteCells, hx]))
   rw [← Lib.size_eq] at hUS
   clear hY
   go_enter Tryz.func124, Tryz.ntmps124
   go_wp2
   go_ret
   have hb1 : Below w.heap.size w (w.alloc (.cells M 5)) := (Below.refl _ w).alloc (Nat.le_refl _) _
   have hb2 : Below w.heap.size (w.alloc (.cells M 5)) ((w.alloc (.cells M 5)).setRow w.heap.size Y) := ⟨rfl, rfl, rfl, by simp, fun k hk => setRow_other _ _ _ _ (by omega)⟩
   exact ⟨rfl, Lib.below_freeze (hb1.trans hb2) (p := ⟨w.heap.size, 0, none⟩) (Nat.le_refl _) _⟩
theorem qw6 (s : ByteArray) (w : World) (hlim : s.size ≤ 140737488351232) :
    Calls Tryz.prog 112 #[.string s] w fun e w' => e = .returned (.string s) ∧ Below w.heap.size w w' := by
 go_enter Tryz.func112, Tryz.ntmps112
 go_wp2_with fail
 refine (qpt s _ hlim).mono ?_
 rintro e w1 ⟨rfl, hb⟩
 go_wp2
 go_ret
 exact ⟨rfl, hb⟩
theorem q2r (n : Int) (m : Nat) (w : World) (hn : -9223372036854775808 ≤ n ∧ n ≤ 9223372036854775807) (hm : m = near n 65536) :
    Calls Tryz.prog 84 #[.int .i64 n, .int .i64 65536] w fun e w' => e = .returned (.int .i64 (m : Int)) ∧ w' = w := by
 subst hm; exact qiv n 65536 w hn (by decide)
def cutT (s : ByteArray) (a m : Nat) : ByteArray := s.extract (min a s.size) (min (a + m) s.size)
theorem qnw (s : ByteArray) (a m : Nat) : (cutT s a m).data.toList = (s.data.toList.drop a).take m := by
 unfold cutT
 rw [qba]
 by_cases h : a ≤ s.size
 · rw [Nat.min_eq_left h]
   by_cases h2 : a + m ≤ s.size
   · rw [Nat.min_eq_left h2, show a + m - a = m by omega]
   · rw [Nat.min_eq_right (by omega), List.take_of_length_le (by rw [List.length_drop, qad]; omega), List.take_of_length_le (by rw [List.length_drop, qad]; omega)]
 · rw [Nat.min_eq_right (by omega), Nat.min_eq_right (by omega), List.drop_of_length_le (l := s.data.toList) (i := a) (by rw [qad]; omega)]
   simp
theorem qw4 (s : ByteArray) (a m : Nat) : (cutT s a m).size ≤ s.size := by
 rw [← qad, qnw, List.length_take, List.length_drop, qad]; omega
theorem quv (g : Nat) (s : ByteArray) (p : Nat) (n : Int) (w : World) (hS : qa6 w g s p) (hs : s.size ≤ 140737488351232) (hp : p ≤ 4000000000000000000) (hn : -9223372036854775808 ≤ n ∧ n ≤ 9223372036854775807) :
    Calls Tryz.prog 100 #[.pointer (some ⟨g, 0, none⟩), .int .i64 n] w fun e w' => e = .returned (.string (cutT s ((p + 7) / 8) (near n 65536))) ∧ qa6 w' g s ((p + 7) / 8 * 8 + 8 * near n 65536) ∧ w.grownBy w' (some g) := by
 have hm : near n 65536 ≤ 65536 := qlo n 65536
 obtain ⟨m, hme⟩ : ∃ m, m = near n 65536 := ⟨_, rfl⟩
 have HN : Hid (∀ W : World, Calls Tryz.prog 84 #[.int .i64 n, .int .i64 65536] W fun e w' => e = .returned (.int .i64 (m : Int)) ∧ w' = W) := fun W => q2r n m W hn hme
 rw [← hme] at hm ⊢
 clear hme
 go_enter Tryz.func100, Tryz.ntmps100
 go_wp2_with fail
 refine (HN.out _).mono ?_
 rintro e w1 ⟨rfl, rfl⟩
 go_wp2_with fail
 refine (qmt g s p _ hS hp).mono ?_
 rintro e w2 ⟨rfl, hS2, hG2⟩
 have c1 := hS2.place
 have c0 := hS2.text
 have f1 := hS2.free 1
 have HS2 : Hid (qa6 w2 g s ((p + 7) / 8 * 8)) := hS2
 clear hS2 hS
 have hq : ((p + 7) / 8 * 8) / 8 = (p + 7) / 8 := by omega
 obtain ⟨q, hqe⟩ : ∃ q, q = (p + 7) / 8 := ⟨_, rfl⟩
 rw [← hqe] at hq c1 HS2
 have hq4 : q ≤ 600000000000000000 := by omega
 have HC : Hid (∀ a b : Int, a = min (q : Int) s.size → b = min ((q : Int) + m) s.size → s.extract a.toNat b.toNat = cutT s q m) := fun a b ha hb => by
  unfold cutT; subst ha; subst hb
  congr 1 <;> omega
 have HP : Hid (∀ N : Nat, qa6 ((w2.drewN N).setCell ⟨g, 1, none⟩ (.int .i64 ((q * 8 + 8 * m : Nat) : Int))) g s (q * 8 + 8 * m) ∧ w1.grownBy ((w2.drewN N).setCell ⟨g, 1, none⟩ (.int .i64 ((q * 8 + 8 * m : Nat) : Int))) (some g)) := fun N =>
  ⟨(HS2.out.drewN N).set _, gset (q02 hG2 N) 1 _⟩
 go_wp2
 go_quiet (fail)
 go_wp2
 go_quiet (fail)
 have hsz : (s.extract (min (((p : Int) + 7) / 8) (s.size : Int)).toNat (min (((p : Int) + 7) / 8 + (m : Int)) (s.size : Int)).toNat).size ≤ 140737488351232 := by
  have := HC.out (min (((p : Int) + 7) / 8) (s.size : Int)) (min (((p : Int) + 7) / 8 + (m : Int)) (s.size : Int)) (by omega) (by omega)
  rw [this]; have := qw4 s q m; omega
 go_wp2_with fail
 refine (qw6 _ _ hsz).mono ?_
 rintro e w3 ⟨rfl, hb3⟩
 go_wp2
 go_ret
 have hE := HC.out (min (((p : Int) + 7) / 8) (s.size : Int)) (min (((p : Int) + 7) / 8 + (m : Int)) (s.size : Int)) (by omega) (by omega)
 obtain ⟨hA, hB⟩ := HP.out (_ + nq)
 rw [← hqe]
 refine ⟨congrArg (fun t => Ending.returned (.string t)) hE, ?_, ?_⟩
 · refine qa6.below ?_ hb3
   subst hqe; exact hA
 · refine qdl ?_ (qrq hb3)
   subst hqe; exact hB
end Go.Proofs.YthkppipdflmekaaGreat
