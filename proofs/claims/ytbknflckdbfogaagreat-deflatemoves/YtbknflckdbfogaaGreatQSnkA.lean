/- The zero Sink; contract of (*bitio.Sink).Turn. Contracts of (*bitio.Sink).Put and .Even. The bytes of a row of bits, filled in from the end on: plain mathematics, no program. Parts of a block in memory; deflate's number, codePart, countOf, put. Contract of (*bitio.Sink).All. -/
import Derived.Test.YtbknflckdbfogaaGreatQSnkB
import Derived.Test.YtbknflckdbfogaaGreatQSrcE
import Derived.Test.YtbknflckdbfogaaGreatQPutA
import Derived.Laws.CopyOwn
import Derived.Laws.BytesArg
import Derived.Test.YtbknflckdbfogaaGreatRows
namespace Go.Proofs.YtbknflckdbfogaaGreat
open Go.RowKit
set_option linter.unusedVariables false
set_option linter.unusedSimpArgs false

/-- The zero Sink's cells. -/
def snk0 : Array Value := snkC none noughts64 0
theorem Tryz.zeroSnk : (Tryz.prog.info? 66).map (fun i => (i.zero, i.size)) = some (some (.agg snk0), 66) := by kernel_rfl
theorem sink_zero (w : World) : SinkAt (w.alloc (.cells snk0 66)) w.heap.size [] := by
  refine ⟨none, ?_, rfl⟩
  rw [restC_past [] _ (by simp)]
  exact heap_alloc_new w _
theorem shr_nat (x k : Nat) : ((x : Int) / 2 ^ k) = ((x / 2 ^ k : Nat) : Int) := by simp
theorem shr_test (x k : Nat) : (x / 2 ^ k).testBit 0 = x.testBit k := by rw [Nat.testBit_div_two_pow, Nat.zero_add]
/-- A shifted number's lowest bit, put. -/
theorem wbit_shr (g : Nat) (L : List Bool) (x k : Nat) (w : World) (hS : SinkAt w g L) (hx : x < 4294967296) (hL : L.length ≤ 4000000000000000000) :
    Calls Tryz.prog 87 #[.pointer (some ⟨g, 0, none⟩), .int .u32 ((x : Int) / 2 ^ k)] w fun e w' => e = .returned (.tuple #[]) ∧ SinkAt w' g (L ++ [x.testBit k]) ∧ w.grownBy w' (some g) := by
  rw [shr_nat, ← shr_test]
  exact wbit_any g L (x / 2 ^ k) w hS (Nat.lt_of_le_of_lt (Nat.div_le_self _ _) hx) hL
set_option maxRecDepth 100000 in
set_option maxHeartbeats 400000 in
theorem wturn_any (g : Nat) (L : List Bool) (x : Nat) (n : Int) (w : World) (hS : SinkAt w g L) (hx : x < 4294967296) (hL : L.length ≤ 3000000000000000000) (hn : -9223372036854775808 ≤ n ∧ n ≤ 9223372036854775807) :
    Calls Tryz.prog 58 #[.pointer (some ⟨g, 0, none⟩), .int .u32 (x : Int), .int .i64 n] w fun e w' => e = .returned (.tuple #[]) ∧ SinkAt w' g (L ++ highB x (near n 32)) ∧ w.grownBy w' (some g) := by
  have hm : near n 32 ≤ 32 := near_le n 32
  obtain ⟨m, hme⟩ : ∃ m, m = near n 32 := ⟨_, rfl⟩
  have HN : Hid (∀ W : World, Calls Tryz.prog 86 #[.int .i64 n, .int .i64 32] W fun e w' => e = .returned (.int .i64 (m : Int)) ∧ w' = W) := fun W => near32 n m W hn hme
  rw [← hme] at hm ⊢
  clear hme
  go_enter Tryz.func58, Tryz.ntmps58
  go_wp2_with (go_at_call 86; refine (HN.out _).mono ?_; rintro e w1 ⟨rfl, rfl⟩)
  go_loopw [6] (fun i wr => ∃ k : Nat, k ≤ m ∧ i = .int .i64 ((m : Int) - 1 - (k : Int)) ∧ SinkAt wr g (L ++ (highB x m).take k) ∧ w1.grownBy wr (some g)) (fun i _ => (intOf i + 1).toNat)
  case atStart => exact ⟨0, by omega, by simp, by simpa using hS, grefl _ _⟩
  case round =>
    clear hS
    obtain ⟨k, hk, rfl, hS, hG⟩ := hrel
    by_cases hlt : k < m
    · have HL : Hid (_ = _) := highK x m k
      have hle : (L ++ (highB x m).take k).length ≤ 4000000000000000000 := by rw [List.length_append, List.length_take, highB_len]; omega
      have i0 : (0 : Int) ≤ (m : Int) - 1 - (k : Int) := by omega
      have i1 : ((m : Int) - 1 - (k : Int)).toNat = m - 1 - k := by omega
      go_wp2_with fail
      refine (wbit_shr g _ x (m - 1 - k) _ hS hx hle).mono ?_
      rintro e w2 ⟨rfl, hS2, hG2⟩
      go_wp2
      go_roundw
      case rel => exact ⟨k + 1, by omega, congrArg _ (by omega), by rw [HL.out, if_pos hlt, ← List.append_assoc]; exact hS2, gtrans hG hG2⟩
      case measure => simp [intOf]; omega
    · obtain rfl : k = m := by omega
      have HT : Hid ((highB x k).take k = highB x k) := List.take_of_length_le (by rw [highB_len]; exact Nat.le_refl _)
      go_wp2
      rw [HT.out] at hS
      exact bodyPost_end (results_none rfl _ _ _) rfl ⟨rfl, hS, hG⟩
end Go.Proofs.YtbknflckdbfogaaGreat
namespace Go.Proofs.YtbknflckdbfogaaGreat
open Go.RowKit
set_option linter.unusedVariables false
set_option linter.unusedSimpArgs false

set_option maxRecDepth 100000 in
set_option maxHeartbeats 400000 in
theorem wput_any (g : Nat) (L : List Bool) (x : Nat) (n : Int) (w : World) (hS : SinkAt w g L) (hx : x < 4294967296) (hL : L.length ≤ 3000000000000000000) (hn : -9223372036854775808 ≤ n ∧ n ≤ 9223372036854775807) :
    Calls Tryz.prog 59 #[.pointer (some ⟨g, 0, none⟩), .int .u32 (x : Int), .int .i64 n] w fun e w' => e = .returned (.tuple #[]) ∧ SinkAt w' g (L ++ lowB x (near n 32)) ∧ w.grownBy w' (some g) := by
  have hm : near n 32 ≤ 32 := near_le n 32
  obtain ⟨m, hme⟩ : ∃ m, m = near n 32 := ⟨_, rfl⟩
  have HN : Hid (∀ W : World, Calls Tryz.prog 86 #[.int .i64 n, .int .i64 32] W fun e w' => e = .returned (.int .i64 (m : Int)) ∧ w' = W) := fun W => near32 n m W hn hme
  rw [← hme] at hm ⊢
  clear hme
  go_enter Tryz.func59, Tryz.ntmps59
  go_wp2_with (go_at_call 86; refine (HN.out _).mono ?_; rintro e w1 ⟨rfl, rfl⟩)
  go_loopw [9] (fun i wr => ∃ k : Nat, k ≤ m ∧ i = .int .i64 (k : Int) ∧ SinkAt wr g (L ++ lowB x k) ∧ w1.grownBy wr (some g)) (fun i _ => m - (intOf i).toNat)
  case atStart => exact ⟨0, by omega, rfl, by simpa [lowB] using hS, grefl _ _⟩
  case round =>
    clear hS
    obtain ⟨k, hk, rfl, hS, hG⟩ := hrel
    by_cases hlt : k < m
    · have HL : Hid (_ = _) := lowB_succ x k
      have hle : (L ++ lowB x k).length ≤ 4000000000000000000 := by rw [List.length_append, lowB_len]; omega
      go_wp2_with fail
      refine (wbit_shr g _ x k _ hS hx hle).mono ?_
      rintro e w2 ⟨rfl, hS2, hG2⟩
      go_wp2
      go_roundw
      case rel => exact ⟨k + 1, by omega, by go_num, by rw [HL.out, ← List.append_assoc]; exact hS2, gtrans hG hG2⟩
      case measure => simp [intOf]; omega
    · obtain rfl : k = m := by omega
      go_wp2
      exact bodyPost_end (results_none rfl _ _ _) rfl ⟨rfl, hS, hG⟩
theorem put_zero (g : Nat) (L : List Bool) (k : Nat) (w : World) (hS : SinkAt w g L) (hL : L.length ≤ 3000000000000000000) (hk : k ≤ 32) :
    Calls Tryz.prog 59 #[.pointer (some ⟨g, 0, none⟩), .int .u32 0, .int .i64 (k : Int)] w fun e w' => e = .returned (.tuple #[]) ∧ SinkAt w' g (L ++ List.replicate k false) ∧ w.grownBy w' (some g) := by
  have h := wput_any g L 0 (k : Int) w hS (by decide) hL (by omega)
  have e : near (k : Int) 32 = k := by unfold near; omega
  have e2 : lowB 0 k = List.replicate k false := by unfold lowB; simp [List.map_const']
  rw [e, e2] at h
  exact h
end Go.Proofs.YtbknflckdbfogaaGreat
namespace Go.Proofs.YtbknflckdbfogaaGreat
open Go Go.RowKit
set_option linter.unusedVariables false
/-- The text of a row of bits. -/
def packS (L : List Bool) : ByteArray := ⟨(packL L).toArray⟩
theorem packS_data (L : List Bool) : (packS L).data.toList = packL L := rfl
theorem packS_size (L : List Bool) : (packS L).size = (L.length + 7) / 8 := by
  have : (packS L).size = (packL L).length := rfl
  rw [this, packL_len]
/-- n bytes of L as cells, but those ahead of byte k: noughts. -/
def outC (L : List Bool) (n k : Nat) : List Value := (List.range n).map fun j => if j < k then .int .u8 0 else .int .u8 ((packB L j).toNat : Int)
theorem outC_len (L : List Bool) (n k : Nat) : (outC L n k).length = n := by simp [outC]
theorem outC_at (L : List Bool) (n k j : Nat) (h : j < n) : (outC L n k)[j]? = some (if j < k then .int .u8 0 else .int .u8 ((packB L j).toNat : Int)) := by simp [outC, h]
theorem outC_fresh (L : List Bool) (n : Nat) : outC L n n = List.replicate n (.int .u8 0) := by
  apply List.ext_getElem?
  intro j
  by_cases h : j < n
  · rw [outC_at _ _ _ _ h, if_pos h, List.getElem?_replicate, if_pos h]
  · rw [List.getElem?_eq_none (by rw [outC_len]; omega), List.getElem?_eq_none (by simp; omega)]
/-- Bytes k .. k + c are copied in. -/
theorem outC_splice (L : List Bool) (n k c : Nat) (hc : c ≤ 64) (hk : k + c ≤ n) : splice (outC L n (k + c)) k ((restC L k).take c) = outC L n k := by
  unfold splice
  have hl : ((restC L k).take c).length = c := by rw [List.length_take, restC_len]; omega
  have hl2 : ((outC L n (k + c)).take k).length = k := by rw [List.length_take, outC_len]; omega
  rw [hl]
  apply List.ext_getElem?
  intro j
  by_cases h : j < n
  · rw [outC_at _ _ _ _ h]
    by_cases h1 : j < k
    · rw [List.getElem?_append_left (by rw [hl2]; omega), List.getElem?_take, if_pos h1, outC_at _ _ _ _ h, if_pos (by omega), if_pos h1]
    · rw [List.getElem?_append_right (by rw [hl2]; omega), hl2, if_neg h1]
      by_cases h2 : j < k + c
      · rw [List.getElem?_append_left (by rw [hl]; omega), List.getElem?_take, if_pos (by omega), restC_at _ _ _ (by omega), show k + (j - k) = j by omega]
      · rw [List.getElem?_append_right (by rw [hl]; omega), hl, List.getElem?_drop, show k + c + (j - k - c) = j by omega, outC_at _ _ _ _ h, if_neg h2]
  · rw [List.getElem?_eq_none (by rw [List.length_append, List.length_append, hl2, List.length_drop, hl, outC_len]; omega), List.getElem?_eq_none (by rw [outC_len]; omega)]
theorem conv_out {P : Program} {w : World} {g : Nat} {src dst e : TypeId} {L : List Bool} {n cap : Nat} {ty : TypeId} (hs : P.underlying src = some (.slice e)) (he : P.underlying e = some (.int .u8)) (hd : P.underlying dst = some .string)
    (hn : n = (L.length + 7) / 8) (h : w.heap[g]? = some (.cells (outC L n 0).toArray ty (0, 0))) : (convert src dst (.slice (some ⟨g, 0, none⟩) n cap)).run P w = .ok (.string (packS L)) w := by
  subst hn
  have e1 : packS L = strOfNums ((packL L).map fun x : UInt8 => (x.toNat : Int)) := by
    unfold packS strOfNums
    rw [List.map_map]
    congr 2
    have : ((fun n : Int => UInt8.ofNat n.toNat) ∘ fun x : UInt8 => (x.toNat : Int)) = id := by funext x; simp
    rw [this, List.map_id]
  rw [e1]
  refine run_convert_bytes_arg w src e hs he g 0 _ cap _ (by rw [List.length_map, packL_len]) (fun i hi => ?_) dst hd
  rw [cell_of_row _ _ _ _ _ _ h, Nat.zero_add, List.getElem?_toArray, outC_at _ _ _ _ hi, if_neg (Nat.not_lt_zero _)]
  simp [packL, hi]
end Go.Proofs.YtbknflckdbfogaaGreat
namespace Go.Proofs.YtbknflckdbfogaaGreat
open Go.RowKit
set_option linter.unusedVariables false
set_option linter.unusedSimpArgs false

/-- Some bits of a block: a number, its lowest bit first, or a code. -/
structure Prt where
  b : Nat
  c : Nat
  code : Bool
def prC (p : Prt) : List Value := [.int .u32 (p.b : Int), .int .i64 (p.c : Int), .bool p.code]
def prB (p : Prt) : List Bool := if p.code then highB p.b p.c else lowB p.b p.c
def prsC (l : List Prt) : List Value := l.flatMap prC
def prsB (l : List Prt) : List Bool := l.flatMap prB
theorem prsC_len : ∀ l : List Prt, (prsC l).length = l.length * 3
  | [] => rfl
  | p :: l => by
    have ih := prsC_len l
    unfold prsC at ih ⊢
    rw [List.flatMap_cons, List.length_append, ih, List.length_cons]
    show 3 + _ = _
    omega
theorem prsC_snoc (l : List Prt) (p : Prt) : prsC (l ++ [p]) = prsC l ++ prC p := by simp [prsC]
theorem prsC_at : ∀ (l : List Prt) (i : Nat) (p : Prt), l[i]? = some p → (prsC l)[i * 3]? = some (.int .u32 (p.b : Int)) ∧ (prsC l)[i * 3 + 1]? = some (.int .i64 (p.c : Int)) ∧ (prsC l)[i * 3 + 2]? = some (.bool p.code)
  | [], i, p, h => by simp at h
  | q :: l, 0, p, h => by
    simp at h; subst h
    exact ⟨rfl, rfl, rfl⟩
  | q :: l, i + 1, p, h => by
    have ih := prsC_at l i p (by simpa using h)
    unfold prsC at ih ⊢
    rw [List.flatMap_cons]
    have e : (prC q).length = 3 := rfl
    rw [List.getElem?_append_right (by rw [e]; omega), List.getElem?_append_right (by rw [e]; omega), List.getElem?_append_right (by rw [e]; omega), e]
    rw [show (i + 1) * 3 - 3 = i * 3 by omega, show (i + 1) * 3 + 1 - 3 = i * 3 + 1 by omega, show (i + 1) * 3 + 2 - 3 = i * 3 + 2 by omega]
    exact ih
theorem prB_len (p : Prt) : (prB p).length = p.c := by unfold prB; split; exact highB_len _ _; exact lowB_len _ _
theorem prsB_snoc (l : List Prt) (p : Prt) : prsB (l ++ [p]) = prsB l ++ prB p := by simp [prsB]
/-- A part that a Sink takes as it is. -/
def PrtOk (p : Prt) : Prop := p.b < 4294967296 ∧ p.c ≤ 32
/-- v is a slice of these parts, at the head of its row. -/
def PS (w : World) (v : Value) (l : List Prt) : Prop := ∃ a cap, v = .slice a l.length cap ∧ (l ≠ [] → ∃ g, a = some ⟨g, 0, none⟩ ∧ g < w.heap.size ∧ ∀ j u, (prsC l)[j]? = some u → w.cell? ⟨g, j, none⟩ = some u)
theorem PS.own {w : World} {B n : Nat} {v : Value} {l : List Prt} (h : w.ownsRow B 120 3 v n (prsC l)) : PS w v l := by
  have hl := h.1
  rw [prsC_len] at hl
  obtain rfl : l.length = n := by omega
  have hlt := h.lt
  rcases h.2 with ⟨rfl, h0⟩ | ⟨g, cap, cur, rfl, _⟩
  · exact ⟨none, 0, by rw [h0], fun hne => absurd (List.eq_nil_of_length_eq_zero h0) hne⟩
  · refine ⟨_, cap, rfl, fun _ => ⟨g, rfl, (hlt g rfl).2, fun j u hu => ?_⟩⟩
    have := World.ownsRow.cells h (g := g) rfl j u hu
    rwa [Addr.add_mid, Nat.zero_add] at this
theorem PS.below {w w' : World} {v : Value} {l : List Prt} (h : PS w v l) (hb : Below w.heap.size w w') : PS w' v l := by
  obtain ⟨a, cap, rfl, hf⟩ := h
  refine ⟨a, cap, rfl, fun hne => ?_⟩
  obtain ⟨g, rfl, hg, hc⟩ := hf hne
  exact ⟨g, rfl, Nat.lt_of_lt_of_le hg hb.size, fun j u hu => by rw [hb.cell (p := ⟨g, j, none⟩) hg]; exact hc j u hu⟩
/-- A part as a value. -/
def pv (p : Prt) : Value := .agg #[.int .u32 (p.b : Int), .int .i64 (p.c : Int), .bool p.code]
set_option maxRecDepth 100000 in
theorem number_any (x c : Nat) (w : World) (hx : x < 4294967296) :
    Calls Tryz.prog 56 #[.int .i64 (x : Int), .int .i64 (c : Int)] w fun e w' => e = .returned (pv ⟨x, c, false⟩) ∧ Below w.heap.size w w' := by
  have HB : Hid (∀ c, Below w.heap.size w (w.alloc (.cells c 120))) := fun c => (Below.refl _ w).alloc (Nat.le_refl _) _
  have hw : IntKind.u32.wrap (x : Int) = (x : Int) := by rw [IntKind.wrap_u32]; omega
  go_enter Tryz.func56, Tryz.ntmps56
  go_wp2
  refine bodyPost_ret (v := pv ⟨x, c, false⟩) (by simp [results, Tryz.results56, go_sem, pv]) rfl ⟨rfl, HB.out _⟩
set_option maxRecDepth 100000 in
theorem codePart_any (b c : Nat) (w : World) :
    Calls Tryz.prog 80 #[.agg #[.int .u32 (b : Int), .int .i64 (c : Int)]] w fun e w' => e = .returned (pv ⟨b, c, true⟩) ∧ Below w.heap.size w w' := by
  have HB : Hid (∀ a c, Below w.heap.size w ((w.alloc a).alloc c)) := fun a c => ((Below.refl _ w).alloc (Nat.le_refl _) _).alloc (by simp) _
  go_enter Tryz.func80, Tryz.ntmps80
  go_wp2
  refine bodyPost_ret (v := pv ⟨b, c, true⟩) (by simp [results, Tryz.results80, go_sem, pv]) rfl ⟨rfl, HB.out _ _⟩
theorem PS.cells {w : World} {a : Option Addr} {n cap : Nat} {l : List Prt} (h : PS w (.slice a n cap) l) {i : Nat} {p : Prt} (hi : l[i]? = some p) : ∃ g, a = some ⟨g, 0, none⟩ ∧ g < w.heap.size ∧ n = l.length ∧ w.cell? ⟨g, i * 3, none⟩ = some (.int .u32 (p.b : Int)) ∧ w.cell? ⟨g, i * 3 + 1, none⟩ = some (.int .i64 (p.c : Int)) ∧ w.cell? ⟨g, i * 3 + 2, none⟩ = some (.bool p.code) := by
  obtain ⟨a', cap', e, hf⟩ := h
  injection e with e1 e2 e3
  subst e1
  obtain ⟨g, rfl, hg, hc⟩ := hf (fun q => by rw [q] at hi; simp at hi)
  have hp := prsC_at l i p hi
  exact ⟨g, rfl, hg, e2, hc _ _ hp.1, hc _ _ hp.2.1, hc _ _ hp.2.2⟩
theorem PS.len {w : World} {v : Value} {l : List Prt} (h : PS w v l) : ∃ a cap, v = .slice a l.length cap := by
  obtain ⟨a, cap, e, _⟩ := h
  exact ⟨a, cap, e⟩
theorem prsB_take (l : List Prt) (k : Nat) (p : Prt) (h : l[k]? = some p) : prsB (l.take (k + 1)) = prsB (l.take k) ++ prB p := by
  rw [List.take_add_one, h]; exact prsB_snoc _ _
theorem prsB_le : ∀ l : List Prt, (∀ p ∈ l, PrtOk p) → (prsB l).length ≤ 32 * l.length
  | [], _ => by simp [prsB]
  | p :: l, h => by
    have ih := prsB_le l (fun q hq => h q (by simp [hq]))
    have hp := (h p (by simp)).2
    unfold prsB at ih ⊢
    rw [List.flatMap_cons, List.length_append, prB_len, List.length_cons]; omega
theorem prsB_le_take (l : List Prt) (h : ∀ p ∈ l, PrtOk p) (k : Nat) : (prsB (l.take k)).length ≤ 32 * k := by
  have := prsB_le (l.take k) (fun p hp => h p (List.mem_of_mem_take hp))
  rw [List.length_take] at this
  omega
set_option maxRecDepth 100000 in
set_option maxHeartbeats 1000000 in
theorem countOf_any (v : Value) (l : List Prt) (w : World) (hP : PS w v l) (hl : l.length ≤ 1000000) (hok : ∀ p ∈ l, PrtOk p) :
    Calls Tryz.prog 27 #[v] w fun e w' => e = .returned (.int .i64 ((prsB l).length : Int)) ∧ Below w.heap.size w w' := by
  have HP : Hid (∀ W, Below w.heap.size w W → PS W v l) := fun W hb => hP.below hb
  have HT : Hid (∀ k, (prsB (l.take k)).length ≤ 32 * k) := prsB_le_take l hok
  obtain ⟨a, cap, rfl⟩ := hP.len
  clear hP
  go_enter Tryz.func27, Tryz.ntmps27
  go_wp2
  go_loopw [3, 8] (fun s i wr => ∃ k : Nat, k ≤ l.length ∧ i = .int .i64 (k : Int) ∧ s = .int .i64 ((prsB (l.take k)).length : Int) ∧ Below w.heap.size w wr) (fun _ i _ => l.length - (intOf i).toNat)
  case atStart => exact ⟨0, by omega, rfl, rfl, Below.refl _ _⟩
  case round =>
    obtain ⟨k, hk, rfl, rfl, hb⟩ := hrel
    by_cases hlt : k < l.length
    · obtain ⟨p, hp⟩ : ∃ p, l[k]? = some p := ⟨_, List.getElem?_eq_getElem hlt⟩
      obtain ⟨g, rfl, hg, _, c0, c1, c2⟩ := (HP.out wr hb).cells hp
      have hki : (k : Int) < (l.length : Int) := by omega
      have hT := HT.out k
      have hT2 := HT.out (k + 1)
      have HX : Hid ((prsB (l.take (k + 1))).length = (prsB (l.take k)).length + p.c) := by unfold Hid; rw [prsB_take l k p hp, List.length_append, prB_len]
      rw [HX.out] at hT2
      generalize (prsB (l.take k)).length = c at *
      obtain ⟨pb, pc, pd⟩ := p
      simp only at c0 c1 c2 HX hT2
      have hbF : ∀ o, Below w.heap.size w (wr.alloc o) := fun o => hb.alloc hb.size o
      have hwr : IntKind.i64.wrap ((c : Int) + (pc : Int)) = (c : Int) + (pc : Int) := by rw [IntKind.wrap_i64]; omega
      clear hp
      go_wp2
      go_roundw
      case rel => exact ⟨k + 1, by omega, by go_num, by rw [HX.out]; go_num, hbF _⟩
      case measure => simp [intOf]; omega
    · obtain rfl : k = l.length := by omega
      rw [List.take_length]
      go_wp2
      go_ret
      exact ⟨rfl, hb⟩
theorem PS.kept {w w' : World} {v : Value} {l : List Prt} {row : Option Nat} (h : PS w v l) (hg : w.grownBy w' row) (hne : v.ownBlock ≠ row) : PS w' v l := by
  obtain ⟨a, cap, rfl, hf⟩ := h
  refine ⟨a, cap, rfl, fun q => ?_⟩
  obtain ⟨g, rfl, hgl, hc⟩ := hf q
  exact ⟨g, rfl, Nat.lt_of_lt_of_le hgl hg.size, fun j u hu => hg.cell (hc j u hu) (by simpa [Value.ownBlock] using hne)⟩
set_option maxRecDepth 100000 in
set_option maxHeartbeats 1000000 in
theorem dput_any (g : Nat) (L : List Bool) (v : Value) (l : List Prt) (w : World) (hS : SinkAt w g L) (hP : PS w v l) (hne : v.ownBlock ≠ some g) (hl : l.length ≤ 1000000) (hok : ∀ p ∈ l, PrtOk p) (hL : L.length ≤ 1000000000000) :
    Calls Tryz.prog 28 #[.pointer (some ⟨g, 0, none⟩), v] w fun e w' => e = .returned (.tuple #[]) ∧ SinkAt w' g (L ++ prsB l) ∧ w.grownBy w' (some g) := by
  have HP : Hid (∀ W, w.grownBy W (some g) → PS W v l) := fun W hb => hP.kept hb hne
  have HT : Hid (∀ k, (prsB (l.take k)).length ≤ 32 * k) := prsB_le_take l hok
  have HOK : Hid (∀ p ∈ l, PrtOk p) := hok
  obtain ⟨a, cap, rfl⟩ := hP.len
  have HS0 : Hid (SinkAt w g L) := hS
  clear hP hS hok
  go_enter Tryz.func28, Tryz.ntmps28
  go_wp2
  go_loopw [8] (fun i wr => ∃ k : Nat, k ≤ l.length ∧ i = .int .i64 (k : Int) ∧ SinkAt wr g (L ++ prsB (l.take k)) ∧ w.grownBy wr (some g)) (fun i _ => l.length - (intOf i).toNat)
  case atStart => exact ⟨0, by omega, rfl, by simpa [prsB] using HS0.out, grefl _ _⟩
  case round =>
    clear HS0
    obtain ⟨k, hk, rfl, hS, hG⟩ := hrel
    by_cases hlt : k < l.length
    · obtain ⟨p, hp⟩ : ∃ p, l[k]? = some p := ⟨_, List.getElem?_eq_getElem hlt⟩
      obtain ⟨gp, rfl, hgp, _, c0, c1, c2⟩ := (HP.out wr hG).cells hp
      have hki : (k : Int) < (l.length : Int) := by omega
      have hT := HT.out k
      have hpk := HOK.out p (List.mem_of_getElem? hp)
      have HX : Hid (L ++ prsB (l.take (k + 1)) = (L ++ prsB (l.take k)) ++ prB p) := by unfold Hid; rw [prsB_take l k p hp, List.append_assoc]
      have hln : (L ++ prsB (l.take k)).length ≤ 2000000000000 := by rw [List.length_append]; omega
      generalize L ++ prsB (l.take k) = M at *
      obtain ⟨pb, pc, pd⟩ := p
      obtain ⟨k1, k2⟩ := hpk
      simp only at c0 c1 c2 HX k1 k2
      have HS : Hid (∀ o, SinkAt (wr.alloc o) g M) := fun o => hS.below ((Below.refl _ wr).alloc (Nat.le_refl _) _)
      have HG : Hid (∀ o, w.grownBy (wr.alloc o) (some g)) := fun o => galloc hG o
      have hnr : near (pc : Int) 32 = pc := by unfold near; omega
      clear hp hS hG
      cases pd
      · go_wp2_with fail
        refine (wput_any g M pb (pc : Int) _ (HS.out _) k1 (by omega) (by omega)).mono ?_
        rintro e w2 ⟨rfl, hS2, hG2⟩
        rw [hnr] at hS2
        have hF := gtrans (HG.out _) hG2
        have hSF : SinkAt w2 g (L ++ prsB (l.take (k + 1))) := by rw [HX.out]; exact hS2
        have HSF : Hid (SinkAt w2 g (L ++ prsB (l.take (k + 1)))) := hSF
        clear hS2 hG2 hSF HS HG
        go_wp2
        go_roundw
        case rel => exact ⟨k + 1, by omega, by go_num, HSF.out, hF⟩
        case measure => simp [intOf]; omega
      · go_wp2_with fail
        refine (wturn_any g M pb (pc : Int) _ (HS.out _) k1 (by omega) (by omega)).mono ?_
        rintro e w2 ⟨rfl, hS2, hG2⟩
        rw [hnr] at hS2
        have hF := gtrans (HG.out _) hG2
        have hSF : SinkAt w2 g (L ++ prsB (l.take (k + 1))) := by rw [HX.out]; exact hS2
        have HSF : Hid (SinkAt w2 g (L ++ prsB (l.take (k + 1)))) := hSF
        clear hS2 hG2 hSF HS HG
        go_wp2
        go_roundw
        case rel => exact ⟨k + 1, by omega, by go_num, HSF.out, hF⟩
        case measure => simp [intOf]; omega
    · obtain rfl : k = l.length := by omega
      rw [List.take_length] at hS
      have HSF : Hid (SinkAt wr g (L ++ prsB l)) := hS
      clear hS
      go_wp2
      exact bodyPost_end (results_none rfl _ _ _) rfl ⟨rfl, HSF.out, hG⟩
end Go.Proofs.YtbknflckdbfogaaGreat
namespace Go.Proofs.YtbknflckdbfogaaGreat
open Go.RowKit
attribute [local go_sem ↓] Go.wp_at_zero Go.wp_at_succ
set_option linter.unusedVariables false
set_option linter.unusedSimpArgs false

theorem Tryz.infoB : (Tryz.prog.info? 5).map (·.size) = some 1 := by kernel_rfl
theorem make_out (L : List Bool) (n : Nat) (hn : n ≤ 1000000000000) (W : World) : (Instr.makeSlice 55 (.int .i64 (n : Int)) (.int .i64 (n : Int))).run Tryz.prog W = .ok (.slice (some ⟨W.heap.size, 0, none⟩) n n) (W.alloc (.cells (outC L n n).toArray 5)) := by
  obtain ⟨i0, hi, hz0, hz1, hz2⟩ := info_parts Tryz.infoU8
  have h := run_make (P := Tryz.prog) W 55 5 i0 (.int .u8 0) Tryz.underlying55 hi hz0 .i64 .i64 (n : Int) (n : Int) (by omega) (by omega) (by rw [hz2]; omega) (by omega)
  have e : madeCells (Value.int .u8 0).cells ((n : Int).toNat * i0.size) = (outC L n n).toArray := by
    rw [outC_fresh, hz1]
    apply Array.ext'
    apply List.ext_getElem?
    intro j
    by_cases hj : j < n
    · simp [madeCells, Value.cells, hj, Nat.mod_one]
    · rw [List.getElem?_eq_none (by simp [madeCells]; omega), List.getElem?_eq_none (by simp; omega)]
  rw [e] at h
  simpa using h
/-- Where a slice that is cut at f begins. -/
def dpAt (B n f : Nat) : Option Addr := if n = f then some ⟨B, 0, none⟩ else some ⟨B, f, none⟩
theorem dpAt_of (B n f : Nat) (h : n ≠ f) : dpAt B n f = some ⟨B, f, none⟩ := by unfold dpAt; rw [if_neg h]
theorem exec_cut {o : Oper} {ev : Operand → Value} {x lo : Operand} {B n f : Nat} (ho : o.op = .slice 55 x (some lo) none none) (hx : ev x = .slice (some ⟨B, 0, none⟩) n n) (hl : ev lo = .int .i64 (f : Int)) (h : f ≤ n) (w : World) :
    (execOp ev o).run Tryz.prog w = .ok (.value (.slice (dpAt B n f) (n - f) (n - f))) w := by
  have h0 : (0 : Int) ≤ (f : Int) := by omega
  have h1 : (f : Int) ≤ (n : Int) := by omega
  unfold execOp
  simp only [ho, Option.map_some, Option.map_none, hx, hl]
  go_simp
  unfold dpAt
  by_cases e : n = f
  · subst e; simp
  · simp [e]
theorem splitN (N n : Nat) (h : n = (N + 7) / 8) : n = 64 * (N / 512) + (N % 512 + 7) / 8 := by omega
/-- What stands while a Sink's bytes are put together. -/
def AO (w : World) (g : Nat) (L : List Bool) (B n k : Nat) (wr : World) : Prop := wr.heap[B]? = some (.cells (outC L n k).toArray 5 (0, 0)) ∧ Below w.heap.size w wr
set_option maxRecDepth 100000 in
set_option maxHeartbeats 1000000 in
theorem all_any (g : Nat) (L : List Bool) (w : World) (hS : SinkAt w g L) (hL : L.length ≤ 1000000000000) :
    Calls Tryz.prog 29 #[.pointer (some ⟨g, 0, none⟩)] w fun e w' => e = .returned (.string (packS L)) ∧ Below w.heap.size w w' := by
  have hlt := hS.lt
  obtain ⟨p, hI, hC⟩ := hS
  have c65 := hI.count (restC_len _ _)
  have c0 := hI.ptr
  obtain ⟨n, hn⟩ : ∃ n, n = (L.length + 7) / 8 := ⟨_, rfl⟩
  have hmk := make_out L n (by omega)
  have HI : Hid (SinkIn w g p (restC L (64 * (L.length / 512))) L.length) := hI
  have HC : Hid (Chain w g L (L.length / 512) p) := hC
  clear hI hC
  have hBF : Hid (∀ W : World, Calls Tryz.prog 60 #[.int .i64 (L.length : Int)] W fun e w' => e = .returned (.int .i64 (n : Int)) ∧ w' = W) := fun W => by rw [hn]; exact bytesFor_any _ W (by omega)
  have HNN : Hid (n = (L.length + 7) / 8) := hn
  generalize hN : L.length = N at *
  clear hn
  obtain ⟨B, hB⟩ : ∃ B, B = w.heap.size := ⟨_, rfl⟩
  obtain ⟨F, hF⟩ : ∃ F, F = 64 * (N / 512) := ⟨_, rfl⟩
  obtain ⟨C, hCC⟩ : ∃ C, C = (N % 512 + 7) / 8 := ⟨_, rfl⟩
  have hnFC : n = F + C := by have := HNN.out; omega
  have hC64 : C ≤ 64 := by omega
  have HA0 : Hid (AO w g L B n (F + C) (w.alloc (.cells (outC L n n).toArray 5)).drew) := by
    rw [hB, ← hnFC]; exact ⟨heap_alloc_new w _, (((Below.refl _ w).alloc (Nat.le_refl _) _)).drew⟩
  have HF0 : Hid (∀ j v, ((restC L F).take C)[j]? = some v → (w.alloc (.cells (outC L n n).toArray 5)).drew.cell? ((⟨g, 1, none⟩ : Addr).add j) = some v) := fun j v hv => by
    have hr := World.rangeAt_alloc HI.out.range (.cells (outC L n n).toArray 5)
    rw [Addr.add_mid]
    show (w.alloc _).cell? _ = _
    rw [← hF] at hr
    refine hr j v ?_
    rw [List.getElem?_take] at hv
    by_cases hj : j < C
    · rwa [if_pos hj] at hv
    · rw [if_neg hj] at hv; cases hv
  have HLT : Hid (((restC L F).take C).length = C) := by unfold Hid; rw [List.length_take, restC_len]; omega
  have hFi : (N : Int) / 512 * 64 = (F : Int) := by omega
  have HB : Hid (B = w.heap.size) := hB
  have HFF : Hid (F = 64 * (N / 512)) := hF
  have HFC : Hid (n = F + C) := hnFC
  have hFn : F ≤ n := by omega
  have hFn2 : n - F = C := by omega
  clear hB hF hCC hnFC
  go_enter Tryz.func29, Tryz.ntmps29
  go_wp2_with (go_at_call 60; refine (hBF.out _).mono ?_; rintro e w1 ⟨rfl, rfl⟩)
  rw [← HB.out]
  refine wp_region_any (by kernel_rfl) ?_
  change wpAny _ _ _ _ 8 (Array.replicate 8 false) _ (World.drew _)
  refine takeW (i := 0) rfl (by kernel_rfl) (by kernel_rfl) (by kernel_rfl) (fun _ _ _ _ h => h) 18 rfl (.slice (some ⟨B, 0, none⟩) n n) (Or.inl ⟨by rfl, by intro w; go_simp⟩) ?_
  simp only [Act.put, List.setIfInBounds_toArray, List.set_cons_zero, List.set_cons_succ]
  refine takeW (i := 1) rfl (by kernel_rfl) (by kernel_rfl) (by kernel_rfl) (fun _ _ _ _ h => h) 19 rfl (.int .i64 (F : Int)) (Or.inl ⟨by rfl, by intro w; go_simp⟩) ?_
  simp only [Act.put, List.setIfInBounds_toArray, List.set_cons_zero, List.set_cons_succ]
  refine takeW (i := 2) rfl (by kernel_rfl) (by kernel_rfl) (by kernel_rfl) (fun _ _ _ _ h => h) 20 rfl (.slice (dpAt B n F) (n - F) (n - F)) (Or.inl ⟨by rfl, fun w => exec_cut rfl (by rfl) (by rfl) (by omega) w⟩) ?_
  simp only [Act.put, List.setIfInBounds_toArray, List.set_cons_zero, List.set_cons_succ]
  refine takeW (i := 3) rfl (by kernel_rfl) (by kernel_rfl) (by kernel_rfl) (fun _ _ _ _ h => h) 21 rfl (.pointer (some ⟨g, 0, none⟩)) (Or.inl ⟨by rfl, by intro w; go_simp⟩) ?_
  simp only [Act.put, List.setIfInBounds_toArray, List.set_cons_zero, List.set_cons_succ]
  refine takeW (i := 4) rfl (by kernel_rfl) (by kernel_rfl) (by kernel_rfl) (fun _ _ _ _ h => h) 22 rfl (.pointer (some ⟨g, 0, none⟩)) (Or.inl ⟨by rfl, by intro w; go_simp⟩) ?_
  simp only [Act.put, List.setIfInBounds_toArray, List.set_cons_zero, List.set_cons_succ]
  refine takeW (i := 5) rfl (by kernel_rfl) (by kernel_rfl) (by kernel_rfl) (fun _ _ _ _ h => h) 23 rfl (.pointer (some ⟨g, 1, none⟩)) (Or.inl ⟨by rfl, by intro w; go_simp⟩) ?_
  simp only [Act.put, List.setIfInBounds_toArray, List.set_cons_zero, List.set_cons_succ]
  refine takeW (i := 6) rfl (by kernel_rfl) (by kernel_rfl) (by kernel_rfl) (fun _ _ _ _ h => h) 24 rfl (.slice (some ⟨g, 1, none⟩) 64 64) (Or.inl ⟨by rfl, by intro w; go_simp⟩) ?_
  simp only [Act.put, List.setIfInBounds_toArray, List.set_cons_zero, List.set_cons_succ]
  refine wpAny_ready (rs := [7]) (by kernel_rfl) (by simp) ?_
  refine AllReady.cons rfl (fun K hK => ?_) AllReady.nil
  refine armW_copy rfl 25 rfl (.tmp 20) (.tmp 24) 55 55 rfl 5 Tryz.underlying55 Tryz.infoB (dpAt B n F) (some ⟨g, 1, none⟩) (n - F) (n - F) 64 64 (by rfl) (by rfl) B F (outC L n (F + C)) 5 HA0.out.1 ((restC L F).take C) (by rw [HLT.out, hFn2]; exact (Nat.min_eq_right hC64).symm) (fun h0 => ⟨dpAt_of B n F (by rw [HLT.out] at h0; omega), _, rfl, HF0.out⟩) (by rw [outC_len, HLT.out]; have := HFC.out; omega) (fun v hv => restC_one _ _ v (List.mem_of_mem_take hv)) w1.heap.size w1 HA0.out.2 (by rw [HB.out]; exact Nat.le_refl _) (fun w5 hw5 hb5 => ?_)
  refine hK _ _ ?_
  clear hK
  simp only [Act.put, List.setIfInBounds_toArray, List.set_cons_zero, List.set_cons_succ]
  refine wpAny_done (by kernel_rfl) ?_ _
  rw [outC_splice L n F C hC64 (by have := HFC.out; omega)] at hw5
  have HA5 : Hid (AO w1 g L B n (64 * (N / 512)) w5) := by rw [← HFF.out]; exact ⟨hw5, hb5⟩
  have c0' : w5.cell? ⟨g, 0, none⟩ = some (.pointer p) := by rw [hb5.cell (p := ⟨g, 0, none⟩) hlt]; exact c0
  clear hw5 hb5 HA0 HF0 c0 c65 hmk hBF HI hFn2 HLT hFn HFC hC64
  go_wp2
  clear c0'
  go_loopw [4, 5] (fun f p wr => ∃ (m : Nat) (q : Option Addr), m ≤ N / 512 ∧ f = .int .i64 ((64 * m : Nat) : Int) ∧ p = .pointer q ∧ Chain w1 g L m q ∧ AO w1 g L B n (64 * m) wr) (fun f _ _ => (intOf f).toNat)
  case atStart => exact ⟨N / 512, p, Nat.le_refl _, by rw [HFF.out], rfl, HC.out, HA5.out⟩
  case round =>
    clear HA5 HC hFi
    obtain ⟨m, q, hm, rfl, rfl, hC, hA⟩ := hrel
    cases m with
    | zero =>
      obtain rfl : q = none := hC
      have hcv := conv_out (P := Tryz.prog) (dst := 9) (cap := n) Tryz.underlying55 Tryz.underlying5 Tryz.underlying9 (by rw [hN]; exact HNN.out) hA.1
      have HBl : Hid (Below w1.heap.size w1 wr) := hA.2
      clear hA
      go_wp2
      go_ret
      exact ⟨rfl, HBl.out⟩
    | succ m =>
      obtain ⟨b, q', rfl, hbg, hblk, hC'⟩ := hC
      have hbl := lt_of_some hblk
      have hblk' : wr.heap[b]? = some (.cells (pieceC q' L m) 135 (0, 0)) := (hA.2.block b hbl).trans hblk
      have cb : wr.cell? ⟨b, 0, none⟩ = some (.pointer q') := by rw [cell_of_row _ _ _ _ _ _ hblk']; rfl
      have HRB : Hid (∀ j v, ((restC L (64 * m)).take 64)[j]? = some v → wr.drew.cell? ((⟨b, 1, none⟩ : Addr).add j) = some v) := fun j v hv => by
        rw [Addr.add_mid]
        show wr.cell? _ = _
        rw [cell_of_row _ _ _ _ _ _ hblk', List.take_of_length_le (by rw [restC_len]; exact Nat.le_refl _)] at *
        simpa [pieceC, Nat.add_comm 1 j] using hv
      have HAD : Hid (AO w1 g L B n (64 * m + 64) wr.drew) := ⟨hA.1, hA.2.drew⟩
      have hmn : 64 * m + 64 ≤ n := by have := HNN.out; omega
      have HL64 : Hid (((restC L (64 * m)).take 64).length = 64) := by unfold Hid; rw [List.length_take, restC_len]; rfl
      have hne : n ≠ 64 * m := by omega
      have HM : Hid (Nat.min 64 (n - 64 * m) = 64) := Nat.min_eq_left (by omega)
      have hfi : 64 * ((m : Int) + 1) - 64 = ((64 * m : Nat) : Int) := by omega
      clear hA hblk'
      generalize hG : 64 * m = G at *
      go_wp2
      refine wp_region_any (by kernel_rfl) ?_
      change wpAny _ _ _ _ 8 (Array.replicate 8 false) _ (World.drew _)
      refine takeW (i := 0) rfl (by kernel_rfl) (by kernel_rfl) (by kernel_rfl) (fun _ _ _ _ h => h) 38 rfl (.slice (some ⟨B, 0, none⟩) n n) (Or.inl ⟨by rfl, by intro w; go_simp⟩) ?_
      simp only [Act.put, List.setIfInBounds_toArray, List.set_cons_zero, List.set_cons_succ]
      refine takeW (i := 1) rfl (by kernel_rfl) (by kernel_rfl) (by kernel_rfl) (fun _ _ _ _ h => h) 39 rfl (.int .i64 (G : Int)) (Or.inl ⟨by rfl, by intro w; go_simp⟩) ?_
      simp only [Act.put, List.setIfInBounds_toArray, List.set_cons_zero, List.set_cons_succ]
      refine takeW (i := 2) rfl (by kernel_rfl) (by kernel_rfl) (by kernel_rfl) (fun _ _ _ _ h => h) 40 rfl (.slice (dpAt B n G) (n - G) (n - G)) (Or.inl ⟨by rfl, fun w => exec_cut rfl (by rfl) (by rfl) (by omega) w⟩) ?_
      simp only [Act.put, List.setIfInBounds_toArray, List.set_cons_zero, List.set_cons_succ]
      refine takeW (i := 3) rfl (by kernel_rfl) (by kernel_rfl) (by kernel_rfl) (fun _ _ _ _ h => h) 41 rfl (.pointer (some ⟨b, 0, none⟩)) (Or.inl ⟨by rfl, by intro w; go_simp⟩) ?_
      simp only [Act.put, List.setIfInBounds_toArray, List.set_cons_zero, List.set_cons_succ]
      refine takeW (i := 4) rfl (by kernel_rfl) (by kernel_rfl) (by kernel_rfl) (fun _ _ _ _ h => h) 42 rfl (.pointer (some ⟨b, 0, none⟩)) (Or.inl ⟨by rfl, by intro w; go_simp⟩) ?_
      simp only [Act.put, List.setIfInBounds_toArray, List.set_cons_zero, List.set_cons_succ]
      refine takeW (i := 5) rfl (by kernel_rfl) (by kernel_rfl) (by kernel_rfl) (fun _ _ _ _ h => h) 43 rfl (.pointer (some ⟨b, 1, none⟩)) (Or.inl ⟨by rfl, by intro w; go_simp⟩) ?_
      simp only [Act.put, List.setIfInBounds_toArray, List.set_cons_zero, List.set_cons_succ]
      refine takeW (i := 6) rfl (by kernel_rfl) (by kernel_rfl) (by kernel_rfl) (fun _ _ _ _ h => h) 44 rfl (.slice (some ⟨b, 1, none⟩) 64 64) (Or.inl ⟨by rfl, by intro w; go_simp⟩) ?_
      simp only [Act.put, List.setIfInBounds_toArray, List.set_cons_zero, List.set_cons_succ]
      refine wpAny_ready (rs := [7]) (by kernel_rfl) (by simp) ?_
      refine AllReady.cons rfl (fun K hK => ?_) AllReady.nil
      refine armW_copy rfl 45 rfl (.tmp 40) (.tmp 44) 55 55 rfl 5 Tryz.underlying55 Tryz.infoB (dpAt B n G) (some ⟨b, 1, none⟩) (n - G) (n - G) 64 64 (by rfl) (by rfl) B G (outC L n (G + 64)) 5 HAD.out.1 ((restC L G).take 64) (by rw [HL64.out, HM.out]) (fun _ => ⟨dpAt_of B n G hne, _, rfl, HRB.out⟩) (by rw [outC_len, HL64.out]; omega) (fun v hv => restC_one _ _ v (List.mem_of_mem_take hv)) w1.heap.size w1 HAD.out.2 (by rw [HB.out]; exact Nat.le_refl _) (fun w5 hw5 hb5 => ?_)
      refine hK _ _ ?_
      clear hK
      simp only [Act.put, List.setIfInBounds_toArray, List.set_cons_zero, List.set_cons_succ]
      refine wpAny_done (by kernel_rfl) ?_ _
      rw [outC_splice L n G 64 (Nat.le_refl _) hmn] at hw5
      have cb5 : w5.cell? ⟨b, 0, none⟩ = some (.pointer q') := by rw [hb5.cell (p := ⟨b, 0, none⟩) hbl, cell_of_row _ _ _ _ _ _ hblk]; rfl
      have HAF : Hid (AO w1 g L B n (64 * m) w5) := by unfold Hid; rw [hG]; exact ⟨hw5, hb5⟩
      clear cb hw5 hb5 HAD HRB
      go_wp2
      exact ⟨⟨m, q', by omega, congrArg _ (by omega), rfl, hC', HAF.out⟩, by simp [intOf]; omega⟩
end Go.Proofs.YtbknflckdbfogaaGreat
