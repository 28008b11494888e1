/- Contract of the document's Of: month by month. -/
import Derived.Test.YtkfaoldpcgokiaaDayR
import Derived.Deep.Cut
namespace Go.Proofs.Ytkfaoldpcgokiaa
open Go.RowKit
set_option linter.unusedVariables false

/-- The month of a number, as cells. -/
def mC (n : Nat) : Array Value := #[.int .i64 (n : Int), .int .i64 (yrN n : Nat), .int .i64 (moN n : Nat), .int .i64 (SM n : Nat), .int .i64 (MDn n : Nat)]
def m0 : Array Value := #[.int .i64 0, .int .i64 0, .int .i64 0, .int .i64 0, .int .i64 0]
/-- A month in block bx, the result's cell in block rx. -/
structure MB (w W : World) (bx rx : Nat) (cs : Array Value) : Prop where
  bxh : W.heap[bx]? = some (.cells cs 56 (0, 0))
  rxh : W.heap[rx]? = some (.cells m0 56 (0, 0))
  bel : Below w.heap.size w W
  lo : w.heap.size ≤ bx ∧ w.heap.size ≤ rx ∧ bx ≠ rx
theorem MB.set {w W : World} {bx rx : Nat} {cs : Array Value} (h : MB w W bx rx cs) (i : Nat) (v : Value) : MB w (W.setCell ⟨bx, i, none⟩ v) bx rx (cs.setIfInBounds i v) :=
  ⟨by rw [heap_setCell_same _ _ _ _ _ _ h.bxh], by rw [Below.heap_setCell _ _ _ _ (by intro e; exact h.lo.2.2 e.symm)]; exact h.rxh, h.bel.setCell h.lo.1 _, h.lo⟩
theorem MB.cast {w W : World} {bx rx : Nat} {cs cs' : Array Value} (h : MB w W bx rx cs) (e : cs = cs') : MB w W bx rx cs' := e ▸ h
theorem m_cells {w : World} {b : Nat} {v0 v1 v2 v3 v4 : Value} {ty : TypeId} (h : w.heap[b]? = some (.cells #[v0, v1, v2, v3, v4] ty (0, 0))) : (w.cell? ⟨b, 0, none⟩ = some v0 ∧ w.cell? ⟨b, 1, none⟩ = some v1 ∧ w.cell? ⟨b, 2, none⟩ = some v2 ∧ w.cell? ⟨b, 3, none⟩ = some v3 ∧ w.cell? ⟨b, 4, none⟩ = some v4) ∧ (w.frozen? ⟨b, 0, none⟩ = false ∧ w.frozen? ⟨b, 1, none⟩ = false ∧ w.frozen? ⟨b, 2, none⟩ = false ∧ w.frozen? ⟨b, 3, none⟩ = false ∧ w.frozen? ⟨b, 4, none⟩ = false) := by
  refine ⟨⟨?_, ?_, ?_, ?_, ?_⟩, frozen_of_row _ _ _ _ _ h, frozen_of_row _ _ _ _ _ h, frozen_of_row _ _ _ _ _ h, frozen_of_row _ _ _ _ _ h, frozen_of_row _ _ _ _ _ h⟩ <;> (rw [cell_of_row _ _ _ _ _ _ h]; rfl)
theorem MB.set0 {w W : World} {bx rx : Nat} {v0 v1 v2 v3 v4 : Value} (h : MB w W bx rx #[v0, v1, v2, v3, v4]) (v : Value) : MB w (W.setCell ⟨bx, 0, none⟩ v) bx rx #[v, v1, v2, v3, v4] := h.set 0 v
theorem MB.set1 {w W : World} {bx rx : Nat} {v0 v1 v2 v3 v4 : Value} (h : MB w W bx rx #[v0, v1, v2, v3, v4]) (v : Value) : MB w (W.setCell ⟨bx, 1, none⟩ v) bx rx #[v0, v, v2, v3, v4] := h.set 1 v
theorem MB.set2 {w W : World} {bx rx : Nat} {v0 v1 v2 v3 v4 : Value} (h : MB w W bx rx #[v0, v1, v2, v3, v4]) (v : Value) : MB w (W.setCell ⟨bx, 2, none⟩ v) bx rx #[v0, v1, v, v3, v4] := h.set 2 v
theorem MB.set3 {w W : World} {bx rx : Nat} {v0 v1 v2 v3 v4 : Value} (h : MB w W bx rx #[v0, v1, v2, v3, v4]) (v : Value) : MB w (W.setCell ⟨bx, 3, none⟩ v) bx rx #[v0, v1, v2, v, v4] := h.set 3 v
theorem MB.set4 {w W : World} {bx rx : Nat} {v0 v1 v2 v3 v4 : Value} (h : MB w W bx rx #[v0, v1, v2, v3, v4]) (v : Value) : MB w (W.setCell ⟨bx, 4, none⟩ v) bx rx #[v0, v1, v2, v3, v] := h.set 4 v
theorem MB.done {w W : World} {bx rx : Nat} {cs : Array Value} (h : MB w W bx rx cs) (v0 v1 v2 v3 v4 : Value) : (((((W.setCell ⟨rx, 0, none⟩ v0).setCell ⟨rx, 1, none⟩ v1).setCell ⟨rx, 2, none⟩ v2).setCell ⟨rx, 3, none⟩ v3).setCell ⟨rx, 4, none⟩ v4).heap[rx]? = some (.cells #[v0, v1, v2, v3, v4] 56 (0, 0)) ∧ Below w.heap.size w (((((W.setCell ⟨rx, 0, none⟩ v0).setCell ⟨rx, 1, none⟩ v1).setCell ⟨rx, 2, none⟩ v2).setCell ⟨rx, 3, none⟩ v3).setCell ⟨rx, 4, none⟩ v4) := by
  refine ⟨?_, ((((h.bel.setCell h.lo.2.1 _).setCell h.lo.2.1 _).setCell h.lo.2.1 _).setCell h.lo.2.1 _).setCell h.lo.2.1 _⟩
  rw [heap_setCell_same _ _ _ _ _ _ (heap_setCell_same _ _ _ _ _ _ (heap_setCell_same _ _ _ _ _ _ (heap_setCell_same _ _ _ _ _ _ (heap_setCell_same _ _ _ _ _ _ h.rxh))))]; rfl
theorem mC_eq (n : Nat) : mC n = #[.int .i64 (n : Int), .int .i64 (yrN n : Nat), .int .i64 (moN n : Nat), .int .i64 (SM n : Nat), .int .i64 (MDn n : Nat)] := rfl
theorem MB.start (w : World) : MB w ((w.alloc (.cells m0 56)).alloc (.cells (mC 0) 56)) (w.heap.size + 1) w.heap.size (mC 0) := by
  refine ⟨?_, ?_, ((Below.refl _ w).alloc (Nat.le_refl _) _).alloc (by rw [World.size_alloc]; omega) _, ⟨by omega, by omega, by omega⟩⟩
  · have := heap_alloc_new (w.alloc (.cells m0 56)) (.cells (mC 0) 56)
    rw [World.size_alloc] at this; exact this
  · rw [heap_alloc_old _ _ (by rw [World.size_alloc]; omega)]; exact heap_alloc_new w _
theorem mC0 : mC 0 = #[.int .i64 0, .int .i64 1970, .int .i64 1, .int .i64 0, .int .i64 31] := rfl
/-- The month behind it. -/
theorem mC_succ (n : Nat) (hm : moN n ≠ 12) : mC (n + 1) = #[.int .i64 ((n : Int) + 1), .int .i64 (yrN n : Nat), .int .i64 ((moN n : Nat) + 1 : Int), .int .i64 ((SM n : Nat) + (MDn n : Nat) : Int), .int .i64 (mdN (yrN n) (moN n + 1) : Nat)] := by
  have e1 : yrN (n + 1) = yrN n := by unfold yrN; unfold moN at hm; omega
  have e2 : moN (n + 1) = moN n + 1 := by unfold moN at *; omega
  unfold mC
  rw [show MDn (n + 1) = mdN (yrN n) (moN n + 1) by unfold MDn; rw [e1, e2], e1, e2]
  rfl
theorem mC_new (n : Nat) (hm : moN n = 12) : mC (n + 1) = #[.int .i64 ((n : Int) + 1), .int .i64 ((yrN n : Nat) + 1 : Int), .int .i64 1, .int .i64 ((SM n : Nat) + (MDn n : Nat) : Int), .int .i64 31] := by
  have e1 : yrN (n + 1) = yrN n + 1 := by unfold yrN; unfold moN at hm; omega
  have e2 : moN (n + 1) = 1 := by unfold moN at *; omega
  unfold mC
  rw [show MDn (n + 1) = 31 by unfold MDn; rw [e2]; simp [mdN], e1, e2]
  rfl
/-- The number that stands in a cell. -/
def numAt (w : World) (b : Nat) : Nat := match w.cell? ⟨b, 0, none⟩ with
  | some v => (intOf v).toNat
  | none => 0
theorem numAt_of {w : World} {b n : Nat} {cs : Array Value} {ty : TypeId} {fr : Nat × Nat} (h : w.heap[b]? = some (.cells cs ty fr)) (hc : cs[0]? = some (.int .i64 (n : Int))) : numAt w b = n := by
  unfold numAt
  rw [cell_of_row _ _ _ _ _ _ h, hc]
  simp [intOf]

set_option maxRecDepth 100000 in
set_option maxHeartbeats 4000000 in
theorem of_any (d : Nat) (w : World) (hd : d ≤ 2932896) :
    Calls Try.prog 30 #[.int .i64 d] w fun e w' => e = .returned (.agg (mC (mon d))) ∧ Below w.heap.size w w' := by
  have HS0 : Hid (_) := MB.start w
  rw [mC0] at HS0
  unfold m0 at HS0
  go_enter Try.func30, Try.ntmps30
  go_wp2
  generalize World.alloc (World.alloc w _) _ = W0 at *
  generalize w.heap.size + 1 = bx at *
  go_loopw [] (fun wr => ∃ n : Nat, SM n ≤ d ∧ MB w wr bx w.heap.size (mC n)) (fun wr => 100000 - numAt wr bx)
  case atStart => exact ⟨0, Nat.zero_le _, HS0.out⟩
  case round =>
    clear HS0
    obtain ⟨n, hn, hS⟩ := hrel
    have hn2 : n < 96360 := by
      rcases Nat.lt_or_ge n 96360 with g | g
      · exact g
      · have := SM_mono g; rw [SM_last] at this; omega
    have HN : Hid (numAt wr bx = n) := numAt_of hS.bxh rfl
    obtain ⟨⟨a0, a1, a2, a3, a4⟩, f0, f1, f2, f3, f4⟩ := m_cells hS.bxh
    unfold mC at hS
    have HS : Hid (_) := hS
    clear hS
    have hdd := MDn_le n
    have hyb : yrN n ≤ 10001 := by unfold yrN; omega
    have hm12 : 1 ≤ moN n ∧ moN n ≤ 12 := by unfold moN; omega
    by_cases hc : SM n + MDn n ≤ d
    · have hnx : SM (n + 1) ≤ d := hc
      have HNX : Hid (_) := hnx
      clear hnx
      have HX : Hid (moN n = 12 → _ = _) := fun h => mC_new n h
      have HY : Hid (moN n ≠ 12 → _ = _) := fun h => mC_succ n h
      have HL1 : Hid (lpN (yrN n) = 1 → ∀ W, _) := fun h W => leap_yes (yrN n) W (by omega) h
      have HL0 : Hid (lpN (yrN n) = 0 → ∀ W, _) := fun h W => leap_no (yrN n) W (by omega) h
      have hll := lpN_le (yrN n)
      generalize SM n = B at *
      generalize MDn n = D at *
      have HSa : Hid (_) := HS.out
      clear HS
      go_upto_region 4 with fail
      have HSb : Hid (_) := HSa.out.set0 (.int .i64 ((n : Int) + 1))
      generalize World.setCell wr _ _ = W1 at *
      clear HSa a0 a1 a2 a3 a4 f0 f1 f2 f3 f4
      obtain ⟨⟨a0, a1, a2, a3, a4⟩, f0, f1, f2, f3, f4⟩ := m_cells HSb.out.bxh
      go_upto_region 5 with fail
      have HSc : Hid (_) := HSb.out.set3 (.int .i64 ((B : Int) + (D : Int)))
      generalize World.setCell W1 _ _ = W2 at *
      clear HSb a0 a1 a2 a3 a4 f0 f1 f2 f3 f4
      obtain ⟨⟨a0, a1, a2, a3, a4⟩, f0, f1, f2, f3, f4⟩ := m_cells HSc.out.bxh
      go_upto_region 6 with fail
      have HSd : Hid (_) := HSc.out.set2 (.int .i64 ((moN n : Int) + 1))
      generalize World.setCell W2 _ _ = W3 at *
      clear HSc a0 a1 a2 a3 a4 f0 f1 f2 f3 f4
      obtain ⟨⟨a0, a1, a2, a3, a4⟩, f0, f1, f2, f3, f4⟩ := m_cells HSd.out.bxh
      generalize moN n = M at *
      generalize yrN n = Y at *
      by_cases h12 : M = 12
      · subst h12
        have hX := HX.out rfl
        have HZ : Hid (_ = _) := hX
        clear hX HX HY HL1 HL0 hm12
        go_upto_region 8 with fail
        have HSe : Hid (_) := HSd.out.set2 (.int .i64 1)
        generalize World.setCell W3 _ _ = W4 at *
        clear HSd a0 a1 a2 a3 a4 f0 f1 f2 f3 f4
        obtain ⟨⟨a0, a1, a2, a3, a4⟩, f0, f1, f2, f3, f4⟩ := m_cells HSe.out.bxh
        go_upto_region 9 with fail
        have HSf : Hid (_) := HSe.out.set1 (.int .i64 ((Y : Int) + 1))
        generalize World.setCell W4 _ _ = W5 at *
        clear HSe a0 a1 a2 a3 a4 f0 f1 f2 f3 f4
        obtain ⟨⟨a0, a1, a2, a3, a4⟩, f0, f1, f2, f3, f4⟩ := m_cells HSf.out.bxh
        go_upto_region 10 with fail
        have HSg : Hid (_) := HSf.out.set4 (.int .i64 31)
        generalize World.setCell W5 _ _ = W6 at *
        clear HSf a0 a1 a2 a3 a4 f0 f1 f2 f3 f4
        obtain ⟨⟨a0, a1, a2, a3, a4⟩, f0, f1, f2, f3, f4⟩ := m_cells HSg.out.bxh
        go_wp2
        go_roundw
        case rel => exact ⟨n + 1, HNX.out, by rw [HZ.out]; exact HSg.out⟩
        case measure => rw [HN.out, numAt_of (n := n + 1) (MB.bxh HSg.out) rfl]; omega
      · have hX := HY.out h12
        have HZ : Hid (_ = _) := hX
        clear hX HX HY
        go_upto_region 10 with fail
        have HSg : Hid (_) := HSd.out.set4 (.int .i64 31)
        generalize World.setCell W3 _ _ = W6 at *
        clear HSd a0 a1 a2 a3 a4 f0 f1 f2 f3 f4
        obtain ⟨⟨a0, a1, a2, a3, a4⟩, f0, f1, f2, f3, f4⟩ := m_cells HSg.out.bxh
        by_cases h1 : M = 1
        · subst h1
          rw [show mdN Y (1 + 1) = 28 + lpN Y by simp [mdN]] at HZ
          clear hm12 h12
          generalize lpN Y = p at *
          rcases (by omega : p = 0 ∨ p = 1) with rfl | rfl
          · have HL := HL0.out rfl
            clear HL0 HL1 hll
            go_upto_region 18 with fail
            have HSh : Hid (_) := HSg.out.set4 (.int .i64 28)
            generalize World.setCell W6 _ _ = W7 at *
            clear HSg a0 a1 a2 a3 a4 f0 f1 f2 f3 f4
            obtain ⟨⟨a0, a1, a2, a3, a4⟩, f0, f1, f2, f3, f4⟩ := m_cells HSh.out.bxh
            go_wp2_with fail
            refine (HL _).mono ?_
            rintro e w1 ⟨rfl, rfl⟩
            clear HL
            go_wp2
            go_roundw
            case rel => exact ⟨n + 1, HNX.out, by rw [HZ.out]; exact HSh.out⟩
            case measure => rw [HN.out, numAt_of (n := n + 1) (MB.bxh HSh.out) rfl]; omega
          · have HL := HL1.out rfl
            clear HL0 HL1 hll
            go_upto_region 18 with fail
            have HSh : Hid (_) := HSg.out.set4 (.int .i64 28)
            generalize World.setCell W6 _ _ = W7 at *
            clear HSg a0 a1 a2 a3 a4 f0 f1 f2 f3 f4
            obtain ⟨⟨a0, a1, a2, a3, a4⟩, f0, f1, f2, f3, f4⟩ := m_cells HSh.out.bxh
            go_wp2_with fail
            refine (HL _).mono ?_
            rintro e w1 ⟨rfl, rfl⟩
            clear HL
            go_wp2
            go_roundw
            case rel => exact ⟨n + 1, HNX.out, by rw [HZ.out]; exact (HSh.out.set4 (.int .i64 29))⟩
            case measure => rw [HN.out, numAt_of (n := n + 1) (MB.bxh (HSh.out.set4 (.int .i64 29))) rfl]; omega
        · clear HL0 HL1 hll
          rcases (by omega : (M = 3 ∨ M = 5 ∨ M = 8 ∨ M = 10) ∨ (M = 2 ∨ M = 4 ∨ M = 6 ∨ M = 7 ∨ M = 9 ∨ M = 11)) with (rfl | rfl | rfl | rfl) | (rfl | rfl | rfl | rfl | rfl | rfl)
          iterate 4
            · clear hm12 h12 h1
              simp only [mdN] at HZ
              go_wp2
              go_roundw
              case rel => exact ⟨n + 1, HNX.out, by rw [HZ.out]; exact (HSg.out.set4 (.int .i64 30))⟩
              case measure => rw [HN.out, numAt_of (n := n + 1) (MB.bxh (HSg.out.set4 (.int .i64 30))) rfl]; omega
          all_goals
            clear hm12 h12 h1
            simp only [mdN] at HZ
            go_wp2
            go_roundw
            case rel => exact ⟨n + 1, HNX.out, by rw [HZ.out]; exact HSg.out⟩
            case measure => rw [HN.out, numAt_of (n := n + 1) (MB.bxh HSg.out) rfl]; omega
    · have HE : Hid (mon d = n) := mon_of hn (by show d < SM n + MDn n; omega)
      have HC : Hid (_ = _) := mC_eq n
      have HR := HS.out.rxh
      obtain ⟨⟨b0, b1, b2, b3, b4⟩, g0, g1, g2, g3, g4⟩ := m_cells HR
      have hne := HS.out.lo.2.2
      clear hyb hm12 HR
      generalize moN n = M at *
      generalize yrN n = Y at *
      generalize SM n = B at *
      generalize MDn n = D at *
      go_wp2
      have HQ := HS.out.done (.int .i64 (n : Int)) (.int .i64 (Y : Int)) (.int .i64 (M : Int)) (.int .i64 (B : Int)) (.int .i64 (D : Int))
      generalize World.setCell (World.setCell (World.setCell (World.setCell (World.setCell wr _ _) _ _) _ _) _ _) _ _ = V at *
      obtain ⟨⟨c0, c1, c2, c3, c4⟩, -⟩ := m_cells HQ.1
      refine bodyPost_ret (v := .agg #[.int .i64 (n : Int), .int .i64 (Y : Int), .int .i64 (M : Int), .int .i64 (B : Int), .int .i64 (D : Int)]) (by simp [results, Try.results30, go_sem, c0, c1, c2, c3, c4]) rfl ⟨?_, HQ.2⟩
      rw [HE.out, HC.out]
end Go.Proofs.Ytkfaoldpcgokiaa
