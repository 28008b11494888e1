/- Contracts of layer 10's Same and awake. -/
import Derived.Test.YtnfemofighgenabChkP
namespace Go.Proofs.Ytnfemofighgenab
open Go.RowKit
set_option linter.unusedVariables false

/-- v is a slice of these texts, wherever it lies. -/
def RS (w : World) (v : Value) (l : List (List UInt8)) : Prop := ∃ a cap, v = .slice a l.length cap ∧ (l ≠ [] → ∃ g, a = some ⟨g, 0, none⟩ ∧ g < w.heap.size ∧ ∀ i, i < l.length → w.cell? ⟨g, i, none⟩ = some (.string (bsU (l.getD i []))))
theorem sc_at (l : List (List UInt8)) (i : Nat) (h : i < l.length) : (sc l)[i]? = some (.string (bsU (l.getD i []))) := by
  simp [sc, List.getElem?_eq_getElem h, List.getD_eq_getElem?_getD]
theorem OS.rs {w : World} {B : Nat} {v : Value} {l : List (List UInt8)} (h : OS w B v l) : RS w v l := by
  rcases h.2 with ⟨rfl, h0⟩ | ⟨g, cap, cur, rfl, hB, hh, _⟩
  · exact ⟨none, 0, by rw [h0], fun hne => absurd (List.length_eq_zero_iff.1 h0) hne⟩
  · refine ⟨some ⟨g, 0, none⟩, cap, rfl, fun _ => ⟨g, rfl, (h.lt g rfl).2, fun i hi => ?_⟩⟩
    rw [World.ownsRow.cellAt h i (by omega), sc_at l i hi]
theorem RS.below {w w' : World} {v : Value} {l : List (List UInt8)} (h : RS w v l) (hb : Below w.heap.size w w') : RS w' v l := by
  obtain ⟨a, cap, rfl, hf⟩ := h
  refine ⟨a, cap, rfl, fun hne => ?_⟩
  obtain ⟨g, rfl, hg, hc⟩ := hf hne
  exact ⟨g, rfl, Nat.lt_of_lt_of_le hg hb.size, fun i hi => by rw [hb.cell (p := ⟨g, i, none⟩) hg]; exact hc i hi⟩
theorem bsU_inj {a b : List UInt8} (h : bsU a = bsU b) : a = b := by
  unfold bsU at h
  have := congrArg (fun x : ByteArray => x.data.toList) h
  simpa using this
theorem bsU_size (l : List UInt8) : (bsU l).size = l.length := by simp [bsU, ByteArray.size]
theorem bsU_data (l : List UInt8) : (bsU l).data.toList = l := by simp [bsU]
theorem bsU_self (s : ByteArray) : bsU s.data.toList = s := by simp [bsU]
theorem bsU_append (a b : List UInt8) : bsU a ++ bsU b = bsU (a ++ b) := by
  apply ba_ext
  rw [ByteArray.data_append, Array.toList_append, bsU_data, bsU_data, bsU_data]
theorem bsU_toList (l : List UInt8) : (bsU l).toList = l := by rw [ByteArray.toList_eq, bsU_data]
theorem bsU_beq (a b : List UInt8) : ((bsU a).toList == (bsU b).toList) = decide (a = b) := by
  rw [bsU_toList, bsU_toList]
  by_cases h : a = b
  · subst h; simp
  · rw [decide_eq_false h, beq_eq_false_iff_ne]; exact h
def sameN (l m : List (List UInt8)) : Int := if l = m then 0 else -1
theorem list_eq_of {l m : List (List UInt8)} (h : l.length = m.length) (k : Nat) (hk : l.length ≤ k) (ha : ∀ j, j < k → l.getD j [] = m.getD j []) : l = m := by
  apply List.ext_getElem h
  intro i h1 h2
  have := ha i (by omega)
  simpa [List.getD_eq_getElem?_getD, h1, h2] using this
set_option maxRecDepth 100000 in
set_option maxHeartbeats 1000000 in
theorem same_any (v u : Value) (l m : List (List UInt8)) (w : World) (hv : RS w v l) (hu : RS w u m) (hl : l.length ≤ 10000000) (hm : m.length ≤ 10000000) :
    Calls Try.prog 15 #[v, u] w fun e w' => e = .returned (.int .i64 (sameN l m)) ∧ ∃ n, w' = w.drewN n := by
  obtain ⟨a, ca, rfl, hA⟩ := hv
  obtain ⟨b, cb, rfl, hB⟩ := hu
  have HA : Hid _ := hA
  have HB : Hid _ := hB
  clear hA hB
  by_cases hlen : l.length = m.length
  · obtain ⟨q, HQ⟩ : ∃ q, Hid (l.length = q) := ⟨_, rfl⟩
    have HM : Hid (m.length = q) := by rw [← hlen]; exact HQ
    rw [HQ.out] at hl
    rw [show l.length = q from HQ.out, show m.length = q from HM.out]
    clear hlen hm
    have hne : ((q : Int) != (q : Int)) = false := by simp
    go_enter Try.func15, Try.ntmps15
    go_wp2
    go_loopw [13] (fun i wr => ∃ k n : Nat, k ≤ q ∧ i = .int .i64 (k : Int) ∧ Hid (∀ j, j < k → l.getD j [] = m.getD j []) ∧ wr = w.drewN n) (fun i _ => q - (intOf i).toNat)
    case atStart => exact ⟨0, 0, by omega, rfl, fun j hj => by omega, rfl⟩
    case round =>
      obtain ⟨k, n, hk, rfl, HE, rfl⟩ := hrel
      by_cases hlt : k < q
      · have hki : (k : Int) < (q : Int) := by omega
        obtain ⟨ga, rfl, hga, hca⟩ := HA.out (fun e => by have := HQ.out; rw [e] at this; simp at this; omega)
        obtain ⟨gb, rfl, hgb, hcb⟩ := HB.out (fun e => by have := HM.out; rw [e] at this; simp at this; omega)
        have c1 : w.cell? ⟨ga, k, none⟩ = _ := hca k (by rw [HQ.out]; exact hlt)
        have c2 : w.cell? ⟨gb, k, none⟩ = _ := hcb k (by rw [HM.out]; exact hlt)
        have hbq := bsU_beq (l.getD k []) (m.getD k [])
        clear hca hcb
        by_cases hx : l.getD k [] = m.getD k []
        · rw [decide_eq_true hx] at hbq
          have HE2 : Hid (∀ j, j < k + 1 → l.getD j [] = m.getD j []) := fun j hj => by
            by_cases e : j = k
            · rw [e]; exact hx
            · exact HE.out j (by omega)
          clear hx
          generalize bsU (l.getD k []) = X at *
          generalize bsU (m.getD k []) = Y at *
          go_wp2
          go_quiet (fail)
          go_wp2
          go_roundw
          case rel => exact ⟨k + 1, n + nq, by omega, by go_num, HE2, by first | rfl | exact World.drewN_drewN ..⟩
          case measure => simp [intOf]; omega
        · rw [decide_eq_false hx] at hbq
          have HR : Hid (sameN l m = -1) := by
            unfold Hid sameN
            rw [if_neg (fun e => hx (by rw [e]))]
          clear hx
          generalize bsU (l.getD k []) = X at *
          generalize bsU (m.getD k []) = Y at *
          go_wp2
          go_quiet (fail)
          go_wp2
          go_ret
          rw [HR.out]; exact ⟨rfl, n + nq, by first | rfl | exact World.drewN_drewN ..⟩
      · have HR : Hid (sameN l m = 0) := by
          unfold Hid sameN
          rw [if_pos (list_eq_of (by rw [HQ.out, HM.out]) k (by rw [HQ.out]; omega) HE.out)]
        go_wp2
        go_ret
        rw [HR.out]; exact ⟨rfl, _, rfl⟩
  · have hni : ((l.length : Int) == (m.length : Int)) = false := by rw [beq_eq_false_iff_ne]; omega
    have HR : Hid (sameN l m = -1) := by
      unfold Hid sameN
      rw [if_neg (fun e => hlen (by rw [e]))]
    clear hlen
    go_enter Try.func15, Try.ntmps15
    go_wp2
    go_ret
    rw [HR.out]; exact ⟨rfl, 0, rfl⟩
end Go.Proofs.Ytnfemofighgenab
