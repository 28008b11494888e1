/- Contracts of node's Path, dated, filled, Target, inForm, unfit. -/
import Derived.Test.YtkgjepgaekbniaaDoorQNodM
import Derived.Test.YtkgjepgaekbniaaDoorQPthN
import Derived.Test.YtkgjepgaekbniaaDoorQShelf
namespace Go.Proofs.YtkgjepgaekbniaaDoor
open Go.RowKit
set_option linter.unusedVariables false
set_option linter.unusedSimpArgs false

set_option maxRecDepth 100000 in
set_option maxHeartbeats 400000 in
theorem dated_any (m t : Int) (w : World) : Calls Tryd.prog 52 #[.int .i64 m, .int .i64 t] w fun e w' => e = .returned (.bool (datedN m t)) ∧ w' = w := by
  unfold datedN
  by_cases h1 : 0 ≤ m
  · by_cases h2 : m ≤ 511
    · by_cases h3 : 0 ≤ t
      · by_cases h4 : t ≤ 253402300799
        all_goals
          go_enter Tryd.func52, Tryd.ntmps52
          go_wp2
          go_ret
          simp [h1, h2, h3, h4]
      · go_enter Tryd.func52, Tryd.ntmps52
        go_wp2
        go_ret
        simp [h1, h2, h3]
        omega
    · go_enter Tryd.func52, Tryd.ntmps52
      go_wp2
      go_ret
      simp [h1, h2]
      omega
  · go_enter Tryd.func52, Tryd.ntmps52
    go_wp2
    go_ret
    simp [h1]
    omega
theorem zero_index : ∀ l : List UInt8, (Lib.indexByte l 0 < 0) ↔ (0 : UInt8) ∉ l
  | [] => by simp [Lib.indexByte]
  | b :: t => by
    have := Lib.indexByte_ge t 0
    have ih := zero_index t
    rw [Lib.indexByte]
    by_cases h : b = 0
    · subst h; simp
    · have h0 : ¬ (0 : UInt8) = b := fun e => h e.symm
      simp [h, h0]
      by_cases hm : (0 : UInt8) ∈ t
      · have := (not_congr ih).2 (by simpa using hm)
        simp [hm]
        split <;> omega
      · have := ih.2 hm
        simp [hm]
        split <;> omega
set_option maxRecDepth 100000 in
set_option maxHeartbeats 400000 in
theorem target_any (g : List UInt8) (w : World) (hg : g.length ≤ 9223372036854775807) : Calls Tryd.prog 11 #[.string ⟨g.toArray⟩] w fun e w' => e = .returned (.bool (targN g)) ∧ w' = w := by
  unfold targN
  by_cases h1 : g = []
  · subst h1
    go_enter Tryd.func11, Tryd.ntmps11
    go_wp2
    go_ret
    simp
  have he : g.isEmpty = false := by simpa using h1
  have he2 : (g == []) = false := by simpa using h1
  by_cases h2 : g.length ≤ 200
  · have h2i : (g.length : Int) ≤ 200 := by omega
    have HZ := zero_index g
    have HI : Hid (Calls _ _ _ _ _) := Tryd.strings_IndexByte ⟨g.toArray⟩ 0 w
    unfold Hid at HI
    go_enter Tryd.func11, Tryd.ntmps11
    go_wp2_with fail
    refine (HI : Calls _ _ _ _ _).mono ?_
    rintro e w1 ⟨rfl, rfl⟩
    simp only [show (0 : Int).toNat.toUInt8 = (0 : UInt8) from rfl]
    generalize hJ : Lib.indexByte g 0 = J at *
    clear hJ
    by_cases hj : J < 0
    · have hm := HZ.1 hj
      clear HZ
      go_wp2
      go_ret
      simp [h1, h2, hm]
    · have hm := (not_congr HZ).1 hj
      have hm2 : (0 : UInt8) ∈ g := by simpa using hm
      clear HZ hm
      go_wp2
      go_ret
      simp [hm2]
  · have h2i : ¬ (g.length : Int) ≤ 200 := by omega
    go_enter Tryd.func11, Tryd.ntmps11
    go_wp2
    go_ret
    simp [h2]
theorem TR.len {w : World} {v : Value} {l : List (List UInt8)} (h : TR w v l) : ∃ a cap, v = .slice a l.length cap := by obtain ⟨a, c, rfl, _, _⟩ := h; exact ⟨a, c, rfl⟩
set_option maxRecDepth 100000 in
set_option maxHeartbeats 1000000 in
theorem filled_any (s : Int) (v : Value) (c : List (List UInt8)) (w : World) (hs0 : -9223372036854775808 ≤ s) (hs1 : s ≤ 9223372036854775807) (hT : TR w v c) (hcl : c.length ≤ 9223372036854775807) (hl : ∀ x ∈ c, x.length ≤ 9223372036854775807) :
    Calls Tryd.prog 53 #[.int .i64 s, v] w fun e w' => e = .returned (.bool (filledN s c)) ∧ w' = w := by
  obtain ⟨a, cap, rfl, hle, hc⟩ := hT
  by_cases h1 : 0 ≤ s
  case neg =>
    have HE : Hid (filledN s c = false) := by unfold Hid filledN; simp [h1]
    have h1' : s < 0 := by omega
    go_enter Tryd.func53, Tryd.ntmps53
    go_wp2
    go_ret
    rw [HE.out]
    exact ⟨rfl, rfl⟩
  have h1' : ¬ s < 0 := by omega
  by_cases h2 : s ≤ 32768
  case neg =>
    have HE : Hid (filledN s c = false) := by unfold Hid filledN; simp [h2]
    have h2' : 32768 < s := by omega
    go_enter Tryd.func53, Tryd.ntmps53
    go_wp2
    go_ret
    rw [HE.out]
    exact ⟨rfl, rfl⟩
  have h2' : ¬ 32768 < s := by omega
  by_cases h3 : (c.length : Int) ≤ s
  case neg =>
    have HE : Hid (filledN s c = false) := by unfold Hid filledN; simp [h3]
    have h3' : s < (c.length : Int) := by omega
    go_enter Tryd.func53, Tryd.ntmps53
    go_wp2
    go_ret
    rw [HE.out]
    exact ⟨rfl, rfl⟩
  have h3' : ¬ s < (c.length : Int) := by omega
  by_cases h4 : c.length = 0 ↔ s = 0
  case neg =>
    have HE : Hid (filledN s c = false) := by unfold Hid filledN; simp only [h4, decide_false, Bool.and_false, Bool.false_and]
    have e1 : ((c.length : Int) == 0) = decide (c.length = 0) := by by_cases h : c.length = 0 <;> simp [h]
    have e2 : (s == 0) = decide (s = 0) := by by_cases h : s = 0 <;> simp [h]
    by_cases g1 : c.length = 0
    · have g2 : ¬ s = 0 := fun e => h4 ⟨fun _ => e, fun _ => g1⟩
      have f1 : ((c.length : Int) == 0) = true := by rw [e1]; simpa using g1
      have f2 : (s == 0) = false := by rw [e2]; simpa using g2
      clear e1 e2 h4
      go_enter Tryd.func53, Tryd.ntmps53
      go_wp2
      go_ret
      rw [HE.out]
      exact ⟨rfl, rfl⟩
    · have g2 : s = 0 := Classical.byContradiction fun e => h4 ⟨fun h => absurd h g1, fun h => absurd h e⟩
      omega
  have HE : Hid (filledN s c = c.all fun x => decide (x.length = 32)) := by
    unfold Hid filledN
    rw [decide_eq_true h1, decide_eq_true h2, decide_eq_true h3, decide_eq_true h4]
    simp
  have HC : Hid (∀ i, i < c.length → ∃ x, a = some x ∧ w.cell? (x.add i) = some (.string (mkB (c.getD i [])))) := hc
  have HL : Hid (∀ x ∈ c, x.length ≤ 9223372036854775807) := hl
  clear hc hl
  by_cases h0 : c.length = 0
  · have hs : s = 0 := h4.1 h0
    subst hs
    have h00 : c = [] := List.length_eq_zero_iff.1 h0
    subst h00
    clear h0 h4 h1 h1' h2 h2' h3 h3' HC HL
    go_enter Tryd.func53, Tryd.ntmps53
    go_wp2
    go_loop [29] (fun v => v = .int .i64 0) (fun v => 0)
    case atStart => rfl
    case round =>
      obtain rfl := hrel
      go_wp2
      go_ret
      rw [HE.out]
      exact ⟨rfl, rfl⟩
  · have f1 : ((c.length : Int) == 0) = false := beq_eq_false_iff_ne.2 (by omega)
    have f2 : (s == 0) = false := beq_eq_false_iff_ne.2 (fun e => h0 (h4.2 e))
    clear h4
    obtain ⟨x, rfl, _⟩ := HC.out 0 (by omega)
    go_enter Tryd.func53, Tryd.ntmps53
    go_wp2
    go_loop [29] (fun v => ∃ k : Nat, k ≤ c.length ∧ v = .int .i64 (k : Int) ∧ (c.take k).all (fun x => decide (x.length = 32)) = true) (fun v => c.length - (intOf v).toNat)
    case atStart => exact ⟨0, Nat.zero_le _, rfl, rfl⟩
    case round =>
      obtain ⟨k, hk, rfl, hall⟩ := hrel
      by_cases hlt : k < c.length
      · obtain ⟨x', hx', hcell⟩ := HC.out k hlt
        obtain rfl := Option.some.inj hx'
        have hmb := mkB_size (c.getD k [])
        have hql := HL.out _ (getD_mem hlt)
        have HT : Hid (_ = _) := take_all c k hlt (fun x => decide (x.length = 32))
        have HF : Hid (decide ((c.getD k []).length = 32) = false → (c.all fun x => decide (x.length = 32)) = false) := fun h => all_false hlt h
        have HA : Hid ((c.take k).all (fun x => decide (x.length = 32)) = true) := hall
        clear hall hx'
        generalize c.getD k [] = q at *
        by_cases h32 : q.length = 32
        · have g1 : ((q.length : Int) == 32) = true := beq_iff_eq.2 (by omega)
          have g2 : ((q.length : Int) != 32) = false := by simp [h32]
          go_wp2
          go_round
          case rel => exact ⟨k + 1, by omega, by go_num, by rw [HT.out, HA.out, decide_eq_true h32]; rfl⟩
          case measure => simp [intOf]; omega
        · have g1 : ((q.length : Int) == 32) = false := beq_eq_false_iff_ne.2 (by omega)
          have g2 : ((q.length : Int) != 32) = true := by rw [bne, g1]; rfl
          go_wp2
          go_ret
          rw [HE.out, HF.out (decide_eq_false h32)]
          exact ⟨rfl, rfl⟩
      · have HX : Hid ((c.all fun x => decide (x.length = 32)) = true) := by unfold Hid; rw [← hall, List.take_of_length_le (by omega)]
        clear hall
        go_wp2
        go_ret
        rw [HE.out, HX.out]
        exact ⟨rfl, rfl⟩
theorem TR.below {w w' : World} {v : Value} {l : List (List UInt8)} (h : TR w v l) (hb : Below w.heap.size w w') : TR w' v l := by
  obtain ⟨a, c, rfl, hle, hc⟩ := h
  refine ⟨a, c, rfl, hle, fun i hi => ?_⟩
  obtain ⟨x, hx, hxc⟩ := hc i hi
  exact ⟨x, hx, by rw [← hxc]; exact hb.cell (World.block_lt_of_cell? _ _ hxc)⟩
theorem NV.below {w w' : World} {v : Value} {n : Nd} (h : NV w v n) (hb : Below w.heap.size w w') : NV w' v n := by
  cases n with
  | fol => exact h
  | pla => obtain ⟨u, h1, h2⟩ := h; exact ⟨u, h1, h2.below hb⟩
  | sym => exact h
  | ptr =>
    obtain ⟨x, h1, h2, h3, h4⟩ := h
    exact ⟨x, h1, by rw [← h2]; exact hb.cell (World.block_lt_of_cell? _ _ h2), by rw [← h3]; exact hb.cell (World.block_lt_of_cell? _ _ h3), by rw [← h4]; exact hb.cell (World.block_lt_of_cell? _ _ h4)⟩
  | non => exact h
end Go.Proofs.YtkgjepgaekbniaaDoor
