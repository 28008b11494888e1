/- Contracts of layer 10's ends and tail. -/
import Derived.Test.YtnfemofighgenabChkU
import Derived.Test.YtnfemofighgenabChkG
namespace Go.Proofs.Ytnfemofighgenab
open Go.RowKit
set_option linter.unusedVariables false

theorem Try.infoInt : (Try.prog.info? 3).map (fun i => (i.zero, i.size, i.bytes)) = some (some (.int .i64 0), 1, 8) := by kernel_rfl
/-- Numbers as cells. -/
def ncs (l : List Nat) : List Value := l.map fun x : Nat => Value.int .i64 (x : Int)
theorem ncs_len (l : List Nat) : (ncs l).length = l.length := by simp [ncs]
theorem ncs_snoc (l : List Nat) (x : Nat) : ncs (l ++ [x]) = ncs l ++ [.int .i64 (x : Int)] := by simp [ncs]
theorem ncs_at (l : List Nat) (i : Nat) (h : i < l.length) : (ncs l)[i]? = some (.int .i64 ((l.getD i 0 : Nat) : Int)) := by
  simp [ncs, List.getElem?_eq_getElem h, List.getD_eq_getElem?_getD]
/-- v is a slice of these numbers, wherever it lies. -/
def RN (w : World) (v : Value) (l : List Nat) : Prop := ∃ a cap, v = .slice a l.length cap ∧ (l ≠ [] → ∃ g, a = some ⟨g, 0, none⟩ ∧ g < w.heap.size ∧ ∀ i, i < l.length → w.cell? ⟨g, i, none⟩ = some (.int .i64 ((l.getD i 0 : Nat) : Int)))
theorem own_rn {w : World} {B : Nat} {v : Value} {l : List Nat} (h : w.ownsRow B 3 1 v l.length (ncs l)) : RN w v l := by
  have hlt := h.lt
  rcases h.2 with ⟨rfl, h0⟩ | ⟨g, cap, cur, rfl, hB, hh, _⟩
  · exact ⟨none, 0, by rw [h0], fun hne => absurd (List.length_eq_zero_iff.1 h0) hne⟩
  · refine ⟨some ⟨g, 0, none⟩, cap, rfl, fun _ => ⟨g, rfl, (hlt g rfl).2, fun i hi => ?_⟩⟩
    rw [World.ownsRow.cellAt h i (by omega), ncs_at l i hi]
theorem RN.below {w w' : World} {v : Value} {l : List Nat} (h : RN w v l) (hb : Below w.heap.size w w') : RN w' v l := by
  obtain ⟨a, cap, rfl, hf⟩ := h
  refine ⟨a, cap, rfl, fun hne => ?_⟩
  obtain ⟨g, rfl, hg, hc⟩ := hf hne
  exact ⟨g, rfl, Nat.lt_of_lt_of_le hg hb.size, fun i hi => by rw [hb.cell (p := ⟨g, i, none⟩) hg]; exact hc i hi⟩
/-- How far the first k chunks' ends are from the end. -/
def ndK (L : List (List UInt8)) (n k : Nat) : List Nat := (List.range k).map fun i => n - stAt L (i + 1)
theorem ndK_len (L : List (List UInt8)) (n k : Nat) : (ndK L n k).length = k := by simp [ndK]
theorem ndK_succ (L : List (List UInt8)) (n k : Nat) : ndK L n (k + 1) = ndK L n k ++ [n - stAt L (k + 1)] := by simp [ndK, List.range_succ]
theorem ndK_at (L : List (List UInt8)) (n k i : Nat) (h : i < k) : (ndK L n k).getD i 0 = n - stAt L (i + 1) := by
  simp [ndK, List.getD_eq_getElem?_getD, h]
set_option maxRecDepth 100000 in
set_option maxHeartbeats 1000000 in
theorem ends10_any (v : Value) (L : List (List UInt8)) (n : Nat) (w : World) (hv : RS w v L) (hL : L.length ≤ 1000000) (hn : L.flatten.length ≤ n) (hn2 : n ≤ 1000000000) :
    Calls Try.prog 16 #[v, .int .i64 (n : Int)] w fun e w' => ∃ u, e = .returned u ∧ RN w' u (ndK L n L.length) ∧ Below w.heap.size w w' := by
  obtain ⟨i0, hi, hz0, hz1, hz2⟩ := info_parts Try.infoInt
  obtain ⟨a, cap, rfl, hA⟩ := hv
  have HA : Hid _ := hA
  clear hA
  go_enter Try.func16, Try.ntmps16
  go_wp2
  go_loopw [1, 5, 11] (fun m u i wr => ∃ k : Nat, k ≤ L.length ∧ i = .int .i64 (k : Int) ∧ m = .int .i64 ((n - stAt L k : Nat) : Int) ∧ wr.ownsRow w.heap.size 3 1 u k (ncs (ndK L n k)) ∧ Below w.heap.size w wr) (fun _ _ i _ => L.length - (intOf i).toNat)
  case atStart => exact ⟨0, by omega, rfl, by rw [stAt_zero]; rfl, World.ownsRow_made _ _ _ (Nat.le_refl _) (by decide) rfl, (Below.refl _ w).alloc (Nat.le_refl _) _⟩
  case round =>
    obtain ⟨k, hk, rfl, rfl, hO, hB⟩ := hrel
    by_cases hlt : k < L.length
    · have hki : (k : Int) < (L.length : Int) := by omega
      obtain ⟨g, rfl, hg, hc⟩ := HA.out (fun e => by rw [e] at hlt; simp at hlt)
      have ck : wr.cell? ⟨g, k, none⟩ = some (.string (bsU (L.getD k []))) := by rw [hB.cell (p := ⟨g, k, none⟩) hg]; exact hc k hlt
      have HSS := stAt_succ L k hlt
      have hle := stAt_le L (k + 1)
      have hXs := bsU_size (L.getD k [])
      have HND : Hid (_ = _) := ndK_succ L n k
      rw [← hXs] at HSS
      rw [HSS] at hle
      have hBs := hB.size
      have e1 : ((n - stAt L k : Nat) : Int) - ((bsU (L.getD k [])).size : Int) = ((n - stAt L (k + 1) : Nat) : Int) := by rw [HSS]; omega
      have hb1 : (bsU (L.getD k [])).size ≤ 1000000000 := by omega
      have hb2 : n - stAt L k ≤ 1000000000 := by omega
      have hb3 : n - stAt L (k + 1) ≤ 1000000000 := by omega
      clear hc hXs HSS hle
      generalize bsU (L.getD k []) = X at *
      generalize hN1 : n - stAt L (k + 1) = N1 at *
      have HN1 : Hid (_ = _) := hN1
      clear hN1
      generalize n - stAt L k = N0 at *
      go_wp2_with (at_builtin; refine wpList_append_own _ rfl _ _ 39 rfl w.heap.size 3 i0 (.int .i64 0) 1 8 Try.underlying39 hi hz0 hz1 hz2 rfl (by decide) _ _ _ rfl (hO.alloc _) ⟨wr.heap.size, 0, none⟩ 1 1 [.int .i64 (N1 : Int)] rfl rfl (cell_one_new _ _ _) ?c2 ?c3 ?c4 ?c5 ?_)
      case c2 => first | rfl | (intro u hu; simp at hu; subst hu; rfl)
      case c3 => unfold maxLen; omega
      case c4 => omega
      case c5 => simp; omega
      intro v' w6 hown' hgrow' _
      rw [← ncs_snoc, ← HND.out] at hown'
      have hB6 := bel_append hB hBs hO hgrow'
      clear hgrow' hO
      go_wp2
      go_roundw
      case rel => exact ⟨k + 1, by omega, by go_num, by rw [HN1.out], hown', hB6⟩
      case measure => simp [intOf]; omega
    · obtain rfl : k = L.length := by omega
      have hR := own_rn (l := ndK L n L.length) (by rw [ndK_len]; exact hO)
      go_wp2
      go_ret
      exact ⟨_, rfl, hR, hB⟩
set_option maxRecDepth 100000 in
set_option maxHeartbeats 1000000 in
theorem tail10_any (v u : Value) (L : List (List UInt8)) (n : Nat) (c : Int) (w : World) (hv : RS w v L) (hu : RN w u (ndK L n L.length)) (hL : L.length ≤ 1000000) (hn2 : n ≤ 1000000000) (hc : -10 ≤ c ∧ c ≤ 1000000000) :
    Calls Try.prog 17 #[v, u, .int .i64 c] w fun e w' => ∃ z, e = .returned z ∧ OS w' w.heap.size z (tlK L n c L.length) ∧ Below w.heap.size w w' := by
  obtain ⟨i0, hi, hz0, hz1, hz2⟩ := info_parts Try.infoStr
  obtain ⟨a, cap, rfl, hA⟩ := hv
  obtain ⟨b, cab, rfl, hU⟩ := hu
  have HA : Hid _ := hA
  have HU : Hid _ := hU
  clear hA hU
  rw [ndK_len] at *
  go_enter Try.func17, Try.ntmps17
  go_wp2
  go_loopw [7, 13] (fun z i wr => ∃ k : Nat, k ≤ L.length ∧ i = .int .i64 (k : Int) ∧ OS wr w.heap.size z (tlK L n c k) ∧ Below w.heap.size w wr) (fun _ i _ => L.length - (intOf i).toNat)
  case atStart => exact ⟨0, by omega, rfl, World.ownsRow_made _ _ _ (Nat.le_refl _) (by decide) rfl, (Below.refl _ w).alloc (Nat.le_refl _) _⟩
  case round =>
    obtain ⟨k, hk, rfl, hO, hB⟩ := hrel
    by_cases hlt : k < L.length
    · have hki : (k : Int) < (L.length : Int) := by omega
      obtain ⟨g, rfl, hg, hcl⟩ := HA.out (fun e => by rw [e] at hlt; simp at hlt)
      have ck : wr.cell? ⟨g, k, none⟩ = some (.string (bsU (L.getD k []))) := by rw [hB.cell (p := ⟨g, k, none⟩) hg]; exact hcl k hlt
      obtain ⟨g2, rfl, hg2, hcu⟩ := HU.out (fun e => by have := ndK_len L n L.length; rw [e] at this; simp at this; omega)
      have cu : wr.cell? ⟨g2, k, none⟩ = some (.int .i64 ((n - stAt L (k + 1) : Nat) : Int)) := by rw [hB.cell (p := ⟨g2, k, none⟩) hg2, hcu k (by first | exact hlt | (rw [ndK_len]; exact hlt)), ndK_at L n L.length k hlt]
      have HT : Hid (tlK L n c (k + 1) = tlK L n c k ++ (if ((n - stAt L (k + 1) : Nat) : Int) < c then [L.getD k []] else [])) := rfl
      have hln := tlK_len L n c k
      have hBs := hB.size
      have hdk : decide ((k : Int) < (L.length : Int)) = true := by rw [decide_eq_true_iff]; omega
      have hdkn : decide (k < L.length) = true := decide_eq_true hlt
      have hbd : n - stAt L (k + 1) ≤ 1000000000 := by omega
      clear hcl hcu
      unfold OS at hO
      generalize hCH : tlK L n c k = CH at *
      generalize n - stAt L (k + 1) = N1 at *
      by_cases hcc : (N1 : Int) < c
      · have hdc : decide ((N1 : Int) < c) = true := decide_eq_true hcc
        have HT2 : Hid (tlK L n c (k + 1) = CH ++ [L.getD k []]) := by rw [HT.out, if_pos hcc]; exact rfl
        clear HT
        generalize L.getD k [] = X at *
        go_wp2_with (at_builtin; refine wpList_append_own _ rfl _ _ 22 rfl w.heap.size 9 i0 (.string ⟨#[]⟩) 1 16 Try.underlying22 hi hz0 hz1 hz2 rfl (by decide) _ _ _ rfl (hO.alloc _) ⟨wr.heap.size, 0, none⟩ 1 1 [.string (bsU X)] rfl rfl (cell_one_new _ _ _) ?c2 ?c3 ?c4 ?c5 ?_)
        case c2 => first | rfl | (intro u hu; simp at hu; subst hu; rfl)
        case c3 => unfold maxLen; omega
        case c4 => omega
        case c5 => simp; omega
        intro v' w6 hown' hgrow' _
        rw [← sc_snoc] at hown'
        have hB6 := bel_append hB hBs hO hgrow'
        clear hgrow' hO
        go_wp2
        go_roundw
        case rel => exact ⟨k + 1, by omega, by go_num, by rw [HT2.out]; unfold OS; rw [List.length_append]; exact hown', hB6⟩
        case measure => simp [intOf]; omega
      · have hdc : decide ((N1 : Int) < c) = false := decide_eq_false hcc
        have HT2 : Hid (tlK L n c (k + 1) = CH) := by rw [HT.out, if_neg hcc, List.append_nil]; exact rfl
        clear HT
        go_wp2
        go_roundw
        case rel => exact ⟨k + 1, by omega, by go_num, by rw [HT2.out]; exact hO, hB⟩
        case measure => simp [intOf]; omega
    · obtain rfl : k = L.length := by omega
      go_wp2
      go_ret
      exact ⟨_, rfl, hO, hB⟩
end Go.Proofs.Ytnfemofighgenab
