/- What calls on a Sink put, and what calls on a Source take again: plain mathematics, no program. -/
import Derived.Test.YtbkaeibjhnndfaaActs
import Derived.Test.YtbkaeibjhnndfaaSrc
import Derived.Test.YtbkaeibjhnndfaaSrcT
import Derived.Test.YtbkaeibjhnndfaaAllM
import Derived.Deep.MidRow
namespace Go.Proofs.Ytbkaeibjhnndfaa
open Go.RowKit
set_option linter.unusedVariables false
/-- The bytes of a call's text, at most 40. -/
def few40 (s : ByteArray) : ByteArray := s.extract 0 40
theorem few40_size (s : ByteArray) : (few40 s).size ≤ 40 := by unfold few40; rw [few_size]; omega
/-- The row of bits behind a call. -/
def actBits (d : ActD) (L : List Bool) : List Bool :=
  if d.kind = 0 then L ++ lowB d.x (near d.n 32) else if d.kind = 1 then L ++ highB d.x (near d.n 32) else if d.kind = 2 then evenL L else if d.kind = 3 then evenL L ++ rowOf (few40 d.s).data.toList else L
theorem act0 {d : ActD} (L : List Bool) (h : d.kind = 0) : actBits d L = L ++ lowB d.x (near d.n 32) := by unfold actBits; rw [if_pos h]
theorem act1 {d : ActD} (L : List Bool) (h : d.kind = 1) : actBits d L = L ++ highB d.x (near d.n 32) := by unfold actBits; rw [if_neg (by omega), if_pos h]
theorem act2 {d : ActD} (L : List Bool) (h : d.kind = 2) : actBits d L = evenL L := by unfold actBits; rw [if_neg (by omega), if_neg (by omega), if_pos h]
theorem act3 {d : ActD} (L : List Bool) (h : d.kind = 3) : actBits d L = evenL L ++ rowOf (few40 d.s).data.toList := by unfold actBits; rw [if_neg (by omega), if_neg (by omega), if_neg (by omega), if_pos h]
theorem act4 {d : ActD} (L : List Bool) (h0 : d.kind ≠ 0) (h1 : d.kind ≠ 1) (h2 : d.kind ≠ 2) (h3 : d.kind ≠ 3) : actBits d L = L := by unfold actBits; rw [if_neg h0, if_neg h1, if_neg h2, if_neg h3]
theorem act_ext (d : ActD) (L : List Bool) : ∃ E, actBits d L = L ++ E := by
  unfold actBits
  split
  · exact ⟨_, rfl⟩
  · split
    · exact ⟨_, rfl⟩
    · split
      · exact ⟨_, rfl⟩
      · split
        · exact ⟨_, by unfold evenL; rw [List.append_assoc]⟩
        · exact ⟨[], by simp⟩
theorem act_len (d : ActD) (L : List Bool) : (actBits d L).length ≤ L.length + 400 := by
  have h1 := near_le d.n 32
  have h2 := few40_size d.s
  have h3 := evenL_len L
  unfold actBits
  split
  · rw [List.length_append, lowB_len]; omega
  · split
    · rw [List.length_append, highB_len]; omega
    · split
      · omega
      · split
        · rw [List.length_append, rowOf_len, size_toList]; omega
        · omega
/-- Behind k calls. -/
def putL (A : Nat → ActD) : Nat → List Bool
  | 0 => []
  | k + 1 => actBits (A k) (putL A k)
theorem putL_len (A : Nat → ActD) : ∀ k, (putL A k).length ≤ 400 * k
  | 0 => by simp [putL]
  | k + 1 => by have := act_len (A k) (putL A k); have := putL_len A k; rw [putL]; omega
theorem putL_ext (A : Nat → ActD) (k : Nat) : ∀ m, ∃ E, putL A (k + m) = putL A k ++ E
  | 0 => ⟨[], by simp⟩
  | m + 1 => by
    obtain ⟨E, hE⟩ := putL_ext A k m
    obtain ⟨F, hF⟩ := act_ext (A (k + m)) (putL A (k + m))
    exact ⟨E ++ F, by rw [show k + (m + 1) = (k + m) + 1 by omega, putL, hF, hE, List.append_assoc]⟩
theorem putL_front (A : Nat → ActD) (k K : Nat) (h : k ≤ K) : ∃ E, putL A K = putL A k ++ E := by
  obtain ⟨E, hE⟩ := putL_ext A k (K - k)
  rw [show k + (K - k) = K by omega] at hE
  exact ⟨E, hE⟩
theorem getD_app_left (L E : List Bool) (i : Nat) (h : i < L.length) : (L ++ E).getD i false = L.getD i false := by
  rw [List.getD_eq_getElem?_getD, List.getD_eq_getElem?_getD, List.getElem?_append_left h]
theorem getD_app_right (L E : List Bool) (i : Nat) : (L ++ E).getD (L.length + i) false = E.getD i false := by
  rw [List.getD_eq_getElem?_getD, List.getD_eq_getElem?_getD, List.getElem?_append_right (by omega), show L.length + i - L.length = i by omega]
/-- Bits that were put behind L are there in the text of all. -/
theorem bits_there (A : Nat → ActD) (k K : Nat) (h : k < K) (M : List Bool) (hM : putL A (k + 1) = putL A k ++ M) (i : Nat) (hi : i < M.length) : sbit (packL (putL A K)) ((putL A k).length + i) = M.getD i false := by
  obtain ⟨E, hE⟩ := putL_front A (k + 1) K (by omega)
  rw [packL_bit, hE, hM, List.append_assoc, getD_app_right, getD_app_left _ _ _ hi]
theorem take_again (A : Nat → ActD) (k K : Nat) (h : k < K) (h0 : (A k).kind = 0) : takeN (fun i => sbit (packL (putL A K)) ((putL A k).length + i)) (near (A k).n 32) = (A k).x % 2 ^ near (A k).n 32 := by
  rw [← takeN_low]
  refine takeN_congr _ fun i hi => ?_
  rw [bits_there A k K h (lowB (A k).x (near (A k).n 32)) (by rw [putL, act0 _ h0]) i (by rw [lowB_len]; exact hi), lowB_at _ _ _ hi]
theorem turn_again (A : Nat → ActD) (k K : Nat) (h : k < K) (h0 : (A k).kind = 1) : turnN (fun i => sbit (packL (putL A K)) ((putL A k).length + i)) (near (A k).n 32) = (A k).x % 2 ^ near (A k).n 32 := by
  rw [← turnN_high]
  refine turnN_congr _ fun i hi => ?_
  rw [bits_there A k K h (highB (A k).x (near (A k).n 32)) (by rw [putL, act1 _ h0]) i (by rw [highB_len]; exact hi), highB_at _ _ _ hi]
theorem byte_eq {a b : UInt8} (h : ∀ i, i < 8 → a.toNat.testBit i = b.toNat.testBit i) : a = b := by
  apply UInt8.toNat_inj.1
  apply Nat.eq_of_testBit_eq
  intro i
  by_cases hi : i < 8
  · exact h i hi
  · rw [Nat.testBit_lt_two_pow (Nat.lt_of_lt_of_le a.toNat_lt (Nat.pow_le_pow_right (n := 2) (i := 8) (by decide) (by omega))), Nat.testBit_lt_two_pow (Nat.lt_of_lt_of_le b.toNat_lt (Nat.pow_le_pow_right (n := 2) (i := 8) (by decide) (by omega)))]
theorem text_again (A : Nat → ActD) (k K : Nat) (h : k < K) (h0 : (A k).kind = 3) : cutT (packS (putL A K)) (((putL A k).length + 7) / 8) (near ((few40 (A k).s).size : Int) 65536) = few40 (A k).s := by
  have h40 := few40_size (A k).s
  have hn : near ((few40 (A k).s).size : Int) 65536 = (few40 (A k).s).size := by unfold near; omega
  rw [hn]
  apply ba_ext
  rw [cutT_data, packS_data]
  obtain ⟨E, hE⟩ := putL_front A (k + 1) K (by omega)
  rw [putL, act3 _ h0] at hE
  generalize few40 (A k).s = S at *
  generalize hq : ((putL A k).length + 7) / 8 = q at *
  have hev := evenL_len (putL A k)
  rw [hq] at hev
  have hlen : (packL (putL A K)).length ≥ q + S.size := by
    rw [packL_len, hE, List.length_append, List.length_append, hev, rowOf_len, size_toList]; omega
  apply List.ext_getElem?
  intro j
  by_cases hj : j < S.size
  · rw [List.getElem?_take, if_pos hj, List.getElem?_drop, List.getElem?_eq_getElem (by omega), List.getElem?_eq_getElem (by rw [size_toList]; exact hj)]
    congr 1
    apply byte_eq
    intro i hi
    have e1 : (packL (putL A K))[q + j].toNat.testBit i = sbit (packL (putL A K)) (8 * (q + j) + i) := by
      unfold sbit
      rw [List.getD_eq_getElem?_getD, show (8 * (q + j) + i) / 8 = q + j by omega, List.getElem?_eq_getElem (by omega), show (8 * (q + j) + i) % 8 = i by omega]; rfl
    rw [e1, packL_bit, hE, List.append_assoc, show 8 * (q + j) + i = (evenL (putL A k)).length + (8 * j + i) by omega, getD_app_right, getD_app_left _ _ _ (by rw [rowOf_len, size_toList]; omega), rowOf_at]
    unfold sbit
    rw [List.getD_eq_getElem?_getD, show (8 * j + i) / 8 = j by omega, List.getElem?_eq_getElem (by rw [size_toList]; exact hj), show (8 * j + i) % 8 = i by omega]; rfl
  · rw [List.getElem?_eq_none (by rw [List.length_take]; omega), List.getElem?_eq_none (by rw [size_toList]; omega)]
/-- How far the k-th call goes on. -/
theorem putL_next (A : Nat → ActD) (k : Nat) : putL A (k + 1) = actBits (A k) (putL A k) := rfl
theorem IsActs.at {w wr : World} {a : Option Addr} {len cap : Nat} {A : Nat → ActD} (h : IsActs w a len cap A) (hb : Below w.heap.size w wr) (i : Nat) (hi : i < len) :
    ∃ b o, a = some ⟨b, o, none⟩ ∧ b < w.heap.size ∧ len ≤ cap ∧ (A i).ok ∧ wr.cell? ⟨b, o + i * 4, none⟩ = some (.int .i64 (A i).kind) ∧ wr.cell? ⟨b, o + i * 4 + 1, none⟩ = some (.int .i64 (A i).n) ∧
      wr.cell? ⟨b, o + i * 4 + 2, none⟩ = some (.int .u32 ((A i).x : Int)) ∧ wr.cell? ⟨b, o + i * 4 + 3, none⟩ = some (.string (A i).s) := by
  rcases h with ⟨_, h0, _⟩ | ⟨x, rfl, hl, hc, hA⟩
  · omega
  · obtain ⟨hok, hcell⟩ := hA i hi
    have c0 := hcell 0 _ rfl
    have c1 := hcell 1 _ rfl
    have c2 := hcell 2 _ rfl
    have c3 := hcell 3 _ rfl
    obtain ⟨b, o, sp⟩ := x
    have d0 := (hA 0 (by omega)).2 0 _ rfl
    have hsp : sp = none := by simpa [Addr.add] using World.cell?_spot d0
    subst hsp
    have hbl : b < w.heap.size := by have := World.block_lt_of_cell? w _ c0; simpa [Addr.add_mid] using this
    simp only [Addr.add_mid] at c0 c1 c2 c3
    refine ⟨b, o, rfl, hbl, hl, hok, ?_, ?_, ?_, ?_⟩
    · rw [hb.cell (p := ⟨b, o + i * 4, none⟩) hbl]; exact c0
    · rw [hb.cell (p := ⟨b, o + i * 4 + 1, none⟩) hbl]; exact c1
    · rw [hb.cell (p := ⟨b, o + i * 4 + 2, none⟩) hbl]; exact c2
    · rw [hb.cell (p := ⟨b, o + i * 4 + 3, none⟩) hbl]; exact c3
theorem IsActs.len_le {w : World} {a : Option Addr} {len cap : Nat} {A : Nat → ActD} (h : IsActs w a len cap A) : len ≤ 9223372036854775807 := by
  rcases h with ⟨_, h0, _⟩ | ⟨x, rfl, hl, hc, hA⟩ <;> omega
end Go.Proofs.Ytbkaeibjhnndfaa
