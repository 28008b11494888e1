/- Contract of (*bitio.Source).Text. -/
import Derived.Test.YthkppipdflmekaaQSrcE
import Derived.Test.YthkppipdflmekaaQClone
namespace Go.Proofs.Ythkppipdflmekaa
open Go.RowKit
set_option linter.unusedVariables false

theorem nearMax (n : Int) (m : Nat) (w : World) (hn : -9223372036854775808 ≤ n ∧ n ≤ 9223372036854775807) (hm : m = near n 65536) :
    Calls Try.prog 42 #[.int .i64 n, .int .i64 65536] w fun e w' => e = .returned (.int .i64 (m : Int)) ∧ w' = w := by
  subst hm; exact nearest_any n 65536 w hn (by decide)
/-- The bytes that Text takes: m of them from byte a on, as far as there are. -/
def cutT (s : ByteArray) (a m : Nat) : ByteArray := s.extract (min a s.size) (min (a + m) s.size)
theorem cutT_data (s : ByteArray) (a m : Nat) : (cutT s a m).data.toList = (s.data.toList.drop a).take m := by
  unfold cutT
  rw [extract_data]
  by_cases h : a ≤ s.size
  · rw [Nat.min_eq_left h]
    by_cases h2 : a + m ≤ s.size
    · rw [Nat.min_eq_left h2, show a + m - a = m by omega]
    · rw [Nat.min_eq_right (by omega), List.take_of_length_le (by rw [List.length_drop, size_toList]; omega), List.take_of_length_le (by rw [List.length_drop, size_toList]; omega)]
  · rw [Nat.min_eq_right (by omega), Nat.min_eq_right (by omega), List.drop_of_length_le (l := s.data.toList) (i := a) (by rw [size_toList]; omega)]
    simp
theorem cutT_size (s : ByteArray) (a m : Nat) : (cutT s a m).size ≤ s.size := by
  rw [← size_toList, cutT_data, List.length_take, List.length_drop, size_toList]; omega
set_option maxRecDepth 100000 in
set_option maxHeartbeats 1000000 in
theorem stext_any (g : Nat) (s : ByteArray) (p : Nat) (n : Int) (w : World) (hS : SrcAt w g s p) (hs : s.size ≤ 140737488351232) (hp : p ≤ 4000000000000000000) (hn : -9223372036854775808 ≤ n ∧ n ≤ 9223372036854775807) :
    Calls Try.prog 45 #[.pointer (some ⟨g, 0, none⟩), .int .i64 n] w fun e w' => e = .returned (.string (cutT s ((p + 7) / 8) (near n 65536))) ∧ SrcAt w' g s ((p + 7) / 8 * 8 + 8 * near n 65536) ∧ w.grownBy w' (some g) := by
  have hm : near n 65536 ≤ 65536 := near_le n 65536
  obtain ⟨m, hme⟩ : ∃ m, m = near n 65536 := ⟨_, rfl⟩
  have HN : Hid (∀ W : World, Calls Try.prog 42 #[.int .i64 n, .int .i64 65536] W fun e w' => e = .returned (.int .i64 (m : Int)) ∧ w' = W) := fun W => nearMax n m W hn hme
  rw [← hme] at hm ⊢
  clear hme
  go_enter Try.func45, Try.ntmps45
  go_wp2_with fail
  refine (HN.out _).mono ?_
  rintro e w1 ⟨rfl, rfl⟩
  go_wp2_with fail
  refine (seven_any g s p _ hS hp).mono ?_
  rintro e w2 ⟨rfl, hS2, hG2⟩
  have c1 := hS2.place
  have c0 := hS2.text
  have f1 := hS2.free 1
  have HS2 : Hid (SrcAt w2 g s ((p + 7) / 8 * 8)) := hS2
  clear hS2 hS
  have hq : ((p + 7) / 8 * 8) / 8 = (p + 7) / 8 := by omega
  obtain ⟨q, hqe⟩ : ∃ q, q = (p + 7) / 8 := ⟨_, rfl⟩
  rw [← hqe] at hq c1 HS2
  have hq4 : q ≤ 600000000000000000 := by omega
  have HC : Hid (∀ a b : Int, a = min (q : Int) s.size → b = min ((q : Int) + m) s.size → s.extract a.toNat b.toNat = cutT s q m) := fun a b ha hb => by
    unfold cutT; subst ha; subst hb
    congr 1 <;> omega
  have HP : Hid (∀ N : Nat, SrcAt ((w2.drewN N).setCell ⟨g, 1, none⟩ (.int .i64 ((q * 8 + 8 * m : Nat) : Int))) g s (q * 8 + 8 * m) ∧ w1.grownBy ((w2.drewN N).setCell ⟨g, 1, none⟩ (.int .i64 ((q * 8 + 8 * m : Nat) : Int))) (some g)) := fun N =>
    ⟨(HS2.out.drewN N).set _, gset (gdrewN hG2 N) 1 _⟩
  go_wp2
  go_quiet (fail)
  go_wp2
  go_quiet (fail)
  have hsz : (s.extract (min (((p : Int) + 7) / 8) (s.size : Int)).toNat (min (((p : Int) + 7) / 8 + (m : Int)) (s.size : Int)).toNat).size ≤ 140737488351232 := by
    have := HC.out (min (((p : Int) + 7) / 8) (s.size : Int)) (min (((p : Int) + 7) / 8 + (m : Int)) (s.size : Int)) (by omega) (by omega)
    rw [this]; have := cutT_size s q m; omega
  go_wp2_with fail
  refine (clone_any _ _ hsz).mono ?_
  rintro e w3 ⟨rfl, hb3⟩
  go_wp2
  go_ret
  have hE := HC.out (min (((p : Int) + 7) / 8) (s.size : Int)) (min (((p : Int) + 7) / 8 + (m : Int)) (s.size : Int)) (by omega) (by omega)
  obtain ⟨hA, hB⟩ := HP.out (_ + nq)
  rw [← hqe]
  refine ⟨congrArg (fun t => Ending.returned (.string t)) hE, ?_, ?_⟩
  · refine SrcAt.below ?_ hb3
    subst hqe; exact hA
  · refine gtrans ?_ (gbelow hb3)
    subst hqe; exact hB
end Go.Proofs.Ythkppipdflmekaa
