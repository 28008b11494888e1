/- The walk of the law BitioPuts: it returns true at every input. -/
import Derived.Test.YtbkaeibjhnndfaaAwake3
import Derived.Test.YtbkaeibjhnndfaaActPut
import Derived.Test.YtbkaeibjhnndfaaRefP
import Derived.Test.YtbkaeibjhnndfaaArmW
import Derived.Deep.DeepCutAuto
import Derived.Deep.RegionHeld
namespace Go.Proofs.Ytbkaeibjhnndfaa
open Go.RowKit
attribute [local go_sem ↓] Go.wp_at_zero Go.wp_at_succ
set_option linter.unusedVariables false
set_option linter.unusedSimpArgs false
theorem Try.zeroAct : (Try.prog.info? 31).map (fun i => (i.zero, i.size)) = some (some (.agg #[.int .i64 0, .int .i64 0, .int .u32 0, .string ⟨#[]⟩]), 4) := by kernel_rfl
theorem OB.own {w : World} {B : Nat} {v : Value} {L : List Bool} (h : OB w B v L) : w.ownsRow B 4 1 v L.length (cbs L) := by
  obtain ⟨g, cap, rfl, ho⟩ := h; exact ho
theorem OB.low {w : World} {B g n c m : Nat} {xs : List Value} (h : w.ownsRow B 4 1 (.slice (some ⟨g, 0, none⟩) n c) m xs) : B ≤ g := (h.lt g rfl).1
/-- A Sink that lay there stays, where nothing of what lay there has turned. -/
theorem SinkAt.since {w w' : World} {g : Nat} {L : List Bool} (h : SinkAt w g L) (hb : Below w.heap.size w w') : SinkAt w' g L := h.below hb
theorem armW_str {ops : Array Oper} {Q : Exit → Act → World → Prop} {o : Oper} {a : Act} {w : World} {K : Act → World → Prop} {E : Prop} (hgd : o.guard = none) (d : Tmp) (hd : o.dst = some d) (x : Operand) (ho : o.op = .load 9 x) (b o' : Nat) (hx : a.eval x = .pointer (some ⟨b, o', none⟩)) (s : ByteArray) (hc : w.cell? ⟨b, o', none⟩ = some (.string s)) (h : K (a.put (some d) (.string s)) w) :
    if Region.wanted o (yielded ops a.tmps) = true then Oper.wp Try.prog o a w K Q else E := by
  refine armW_value hgd (some d) hd (v := .string s) (w' := w) ?_ h
  unfold execOp
  simp only [ho, hx]
  go_simp
set_option maxRecDepth 100000 in
set_option maxHeartbeats 4000000 in
theorem lawBitioPuts_walk (a : Option Addr) (len cap : Nat) (A : Nat → ActD) (w : World) (hA : IsActs w a len cap A) :
    Calls Try.prog 4 #[.slice a len cap] w fun e w' => e = .returned (.bool true) ∧ Below w.heap.size w w' := by
  obtain ⟨i0, hi, hz0, hz1, hz2⟩ := info_parts Try.infoBo
  have hz := (zero_of_info Try.zeroSnk).1
  have hza := (zero_of_info Try.zeroAct).1
  have hlen := hA.len_le
  have HA : Hid (IsActs w a len cap A) := hA
  have hW0 := sink_zero w
  have HZ : Hid (SinkAt ((w.alloc (.cells snk0 41)).alloc (.cells #[] 4)) w.heap.size (putL A 0)) := hW0.below ((Below.refl _ _).alloc (Nat.le_refl _) _)
  have HO0 : Hid (OB ((w.alloc (.cells snk0 41)).alloc (.cells #[] 4)) (w.heap.size + 1) (.slice (some ⟨w.heap.size + 1, 0, none⟩) 0 0) (putL A 0)) := by
    have := World.ownsRow_made (w.alloc (.cells snk0 41)) (base := w.heap.size + 1) (e := 4) (size := 1) #[] 0 (by simp) (by decide) rfl
    rw [World.size_alloc] at this
    exact ⟨_, _, rfl, this⟩
  have HB0 : Hid (Below w.heap.size w ((w.alloc (.cells snk0 41)).alloc (.cells #[] 4))) := ((Below.refl _ w).alloc (Nat.le_refl _) _).alloc (by simp) _
  clear hA hW0
  obtain ⟨K, hK⟩ : ∃ K, K = min len 60 := ⟨_, rfl⟩
  have hK60 : K ≤ 60 := by omega
  have hKl : K ≤ len := by omega
  have HK : Hid (∀ k, k ≤ K → ¬ k < K → ¬ (k < len ∧ k < 60)) := fun k h1 h2 => by omega
  have HK2 : Hid (∀ k, k < K → (k < len ∧ k < 60)) := fun k h1 => by omega
  clear hK
  obtain ⟨g, hg⟩ : ∃ g, g = w.heap.size := ⟨_, rfl⟩
  have hgw : w.heap.size ≤ g := by omega
  go_enter Try.func4, Try.ntmps4
  go_wp2_with fail
  rw [← hg]
  rw [← hg] at HZ HO0
  clear hg hz
  generalize (w.alloc (.cells snk0 41)).alloc (.cells #[] 4) = W1 at *
  refine (awake3_any _).mono ?_
  rintro e w2 ⟨rfl, hb2⟩
  have HZ2 : Hid (SinkAt w2 g (putL A 0)) := HZ.out.below hb2
  have HO2 : Hid (OB w2 (g + 1) (.slice (some ⟨g + 1, 0, none⟩) 0 0) (putL A 0)) := HO0.out.below hb2
  have HB2 : Hid (Below w.heap.size w w2) := HB0.out.trans (hb2.mono HB0.out.size)
  clear HZ HO0 HB0 hb2
  go_wp2
  go_loopw [4, 5] (fun v i wr => ∃ k : Nat, k ≤ K ∧ i = .int .i64 (k : Int) ∧ SinkAt wr g (putL A k) ∧ OB wr (g + 1) v (putL A k) ∧ Below w.heap.size w wr) (fun _ i _ => K - (intOf i).toNat)
  case atStart => exact ⟨0, by omega, rfl, HZ2.out, HO2.out, HB2.out⟩
  case round =>
    clear HZ2 HO2 HB2
    revert hrel
    generalize u4 = v
    intro hrel
    obtain ⟨k, hk, rfl, hS, hO, hB⟩ := hrel
    by_cases hlt : k < K
    · obtain ⟨hl1, hl2⟩ := HK2.out k hlt
      obtain ⟨b, o, rfl, hbl, hlc, hok, c0, c1, c2, c3⟩ := HA.out.at hB k hl1
      have hi0 : (0 : Int) ≤ (k : Int) := by omega
      have hi1 : (k : Int) < (len : Int) := by omega
      have hi2 : (k : Int) < 60 := by omega
      have hLk := putL_len A k
      have hLk1 := putL_len A (k + 1)
      have HN0 : Hid ((A k).kind = 0 → putL A (k + 1) = _) := fun h => act0 (putL A k) h
      have HN1 : Hid ((A k).kind = 1 → putL A (k + 1) = _) := fun h => act1 (putL A k) h
      have HN2 : Hid ((A k).kind = 2 → putL A (k + 1) = _) := fun h => act2 (putL A k) h
      have HN3 : Hid ((A k).kind = 3 → putL A (k + 1) = _) := fun h => act3 (putL A k) h
      have HN4 : Hid ((A k).kind ≠ 0 → (A k).kind ≠ 1 → (A k).kind ≠ 2 → (A k).kind ≠ 3 → putL A (k + 1) = _) := fun h0 h1 h2 h3 => act4 (putL A k) h0 h1 h2 h3
      obtain ⟨q0, q1, q2, q3⟩ := hok
      generalize (A k).kind = dk at *
      generalize (A k).n = dn at *
      generalize (A k).x = dx at *
      generalize (A k).s = ds at *
      have hvne : v.ownBlock ≠ some g := by
        have hO' := hO
        obtain ⟨gv, cv, rfl, _⟩ := hO
        have := hO'.lt.1
        simp [Value.ownBlock]; omega
      have hgl : g < wr.heap.size := hS.lt
      have hS4 : SinkAt (wr.alloc (.cells #[.int .i64 dk, .int .i64 dn, .int .u32 (dx : Int), .string ds] 31)) g (putL A k) := hS.below ((Below.refl _ wr).alloc (Nat.le_refl _) _)
      have hO4 : OB (wr.alloc (.cells #[.int .i64 dk, .int .i64 dn, .int .u32 (dx : Int), .string ds] 31)) (g + 1) v (putL A k) := hO.below ((Below.refl _ wr).alloc (Nat.le_refl _) _)
      have hB4 : Below w.heap.size w (wr.alloc (.cells #[.int .i64 dk, .int .i64 dn, .int .u32 (dx : Int), .string ds] 31)) := hB.alloc hB.size _
      have d0 : (wr.alloc (.cells #[.int .i64 dk, .int .i64 dn, .int .u32 (dx : Int), .string ds] 31)).cell? ⟨wr.heap.size, 0, none⟩ = some (.int .i64 dk) := by rw [cell_of_row _ _ _ _ _ _ (heap_alloc_new wr _)]; rfl
      have d1 : (wr.alloc (.cells #[.int .i64 dk, .int .i64 dn, .int .u32 (dx : Int), .string ds] 31)).cell? ⟨wr.heap.size, 1, none⟩ = some (.int .i64 dn) := by rw [cell_of_row _ _ _ _ _ _ (heap_alloc_new wr _)]; rfl
      have d2 : (wr.alloc (.cells #[.int .i64 dk, .int .i64 dn, .int .u32 (dx : Int), .string ds] 31)).cell? ⟨wr.heap.size, 2, none⟩ = some (.int .u32 (dx : Int)) := by rw [cell_of_row _ _ _ _ _ _ (heap_alloc_new wr _)]; rfl
      have d3 : (wr.alloc (.cells #[.int .i64 dk, .int .i64 dn, .int .u32 (dx : Int), .string ds] 31)).cell? ⟨wr.heap.size, 3, none⟩ = some (.string ds) := by rw [cell_of_row _ _ _ _ _ _ (heap_alloc_new wr _)]; rfl
      have hgd4 : wr.heap.size < (wr.alloc (.cells #[.int .i64 dk, .int .i64 dn, .int .u32 (dx : Int), .string ds] 31)).heap.size := by rw [World.size_alloc]; omega
      have hgdg : wr.heap.size ≠ g := by omega
      clear hS hO hB
      go_upto_region 9 with fail
      clear c0 c1 c2 c3
      generalize wr.alloc (.cells #[.int .i64 dk, .int .i64 dn, .int .u32 (dx : Int), .string ds] 31) = W at *
      generalize wr.heap.size = gd at *
      by_cases k0 : dk = 0
      · subst k0
        have HN := HN0.out rfl
        go_wp2_with fail
        refine (wput_any g _ dx dn _ hS4 q2 (by omega) q1).mono ?_
        rintro e w5 ⟨rfl, hS5, hG5⟩
        have hO5 := hO4.kept hG5 hvne
        have hB5 : Below w.heap.size w w5 := hB4.grown hG5 hB4.size (fun z hz => by cases hz; exact hgw)
        have e1 : w5.cell? ⟨gd, 1, none⟩ = some (.int .i64 dn) := hG5.cell d1 (fun e => hgdg (Option.some.inj e))
        have e2 : w5.cell? ⟨gd, 2, none⟩ = some (.int .u32 (dx : Int)) := hG5.cell d2 (fun e => hgdg (Option.some.inj e))
        have hgd5 : gd < w5.heap.size := Nat.lt_of_lt_of_le hgd4 hG5.size
        have hg5 : g < w5.heap.size := hS5.lt
        clear hS4 hO4 hB4 hG5 d0 d1 d2 d3
        have HPC : Hid (∀ W, OB W (g + 1) v (putL A k) → Calls Try.prog 21 #[v, .int .u32 (dx : Int), .int .i64 (near dn 32 : Int), .bool false] W fun e w' => ∃ v', e = .returned v' ∧ OB w' W.heap.size v' (putL A k ++ lowB dx (near dn 32)) ∧ Below W.heap.size W w') := fun W h => pieces_low v _ _ dx (near dn 32) W h (by omega) q2 (near_le dn 32)
        go_wp2
        go_region_held (fun w' => w'.cell? ⟨gd, 1, none⟩ = some (.int .i64 dn) ∧ w'.cell? ⟨gd, 2, none⟩ = some (.int .u32 (dx : Int))) (first | exact ⟨e1, e2⟩ | assumption | exact ⟨(hb7.cell (p := ⟨gd, 1, none⟩) hgd5).trans e1, (hb7.cell (p := ⟨gd, 2, none⟩) hgd5).trans e2⟩)
          (first | (go_at_call 12; refine (within_any dn 32 _ q1 (by decide)).mono ?_; rintro e w6 ⟨rfl, rfl⟩) | (go_at_call 21; refine (HPC.out _ hO5.drew).mono ?_; rintro e w7 ⟨v7, rfl, hO7, hb7⟩))
        have hS9 : SinkAt w7 g (putL A (k + 1)) := by rw [HN]; exact hS5.drew.below hb7
        have hO9 : OB w7 (g + 1) v7 (putL A (k + 1)) := by rw [HN]; exact hO7.mono hg5
        have hB9 : Below w.heap.size w w7 := hB5.drew.trans (hb7.mono hB5.size)
        clear hb7 hO7 hS5 hO5 hB5 HN e1 e2
        obtain ⟨gv, cv, rfl, hov⟩ := hO9
        have hO9 : OB w7 (g + 1) (.slice (some ⟨gv, 0, none⟩) (putL A (k + 1)).length cv) (putL A (k + 1)) := ⟨gv, cv, rfl, hov⟩
        clear hov
        go_wp2_with fail
        refine (count_any g _ _ hS9).mono ?_
        rintro e w10 ⟨rfl, rfl⟩
        go_wp2_with fail
        refine (all_any g _ _ hS9 (by omega)).mono ?_
        rintro e w11 ⟨rfl, hb11⟩
        go_wp2_with fail
        refine (rtext_any _ _ _ _ (hO9.below hb11) (by omega)).mono ?_
        rintro e w12 ⟨rfl, hb12⟩
        have hS12 := (hS9.below hb11).below hb12
        have hO12 := (hO9.below hb11).below hb12
        have hB12 := (hB9.trans (hb11.mono hB9.size)).trans (hb12.mono (Nat.le_trans hB9.size hb11.size))
        clear hS9 hO9 hB9 hb11 hb12
        go_wp2
        go_roundw
        case rel => exact ⟨k + 1, by omega, by go_num, hS12, hO12, hB12⟩
        case measure => simp [intOf]; omega
      by_cases k1 : dk = 1
      · subst k1
        have HN := HN1.out rfl
        go_wp2_with fail
        refine (wturn_any g _ dx dn _ hS4 q2 (by omega) q1).mono ?_
        rintro e w5 ⟨rfl, hS5, hG5⟩
        have hO5 := hO4.kept hG5 hvne
        have hB5 : Below w.heap.size w w5 := hB4.grown hG5 hB4.size (fun z hz => by cases hz; exact hgw)
        have e1 : w5.cell? ⟨gd, 1, none⟩ = some (.int .i64 dn) := hG5.cell d1 (fun e => hgdg (Option.some.inj e))
        have e2 : w5.cell? ⟨gd, 2, none⟩ = some (.int .u32 (dx : Int)) := hG5.cell d2 (fun e => hgdg (Option.some.inj e))
        have hgd5 : gd < w5.heap.size := Nat.lt_of_lt_of_le hgd4 hG5.size
        have hg5 : g < w5.heap.size := hS5.lt
        clear hS4 hO4 hB4 hG5 d0 d1 d2 d3
        have HPC : Hid (∀ W, OB W (g + 1) v (putL A k) → Calls Try.prog 21 #[v, .int .u32 (dx : Int), .int .i64 (near dn 32 : Int), .bool true] W fun e w' => ∃ v', e = .returned v' ∧ OB w' W.heap.size v' (putL A k ++ highB dx (near dn 32)) ∧ Below W.heap.size W w') := fun W h => pieces_high v _ _ dx (near dn 32) W h (by omega) q2 (near_le dn 32)
        go_wp2
        go_region_held (fun w' => w'.cell? ⟨gd, 1, none⟩ = some (.int .i64 dn) ∧ w'.cell? ⟨gd, 2, none⟩ = some (.int .u32 (dx : Int))) (first | exact ⟨e1, e2⟩ | assumption | exact ⟨(hb7.cell (p := ⟨gd, 1, none⟩) hgd5).trans e1, (hb7.cell (p := ⟨gd, 2, none⟩) hgd5).trans e2⟩)
          (first | (go_at_call 12; refine (within_any dn 32 _ q1 (by decide)).mono ?_; rintro e w6 ⟨rfl, rfl⟩) | (go_at_call 21; refine (HPC.out _ hO5.drew).mono ?_; rintro e w7 ⟨v7, rfl, hO7, hb7⟩))
        have hS9 : SinkAt w7 g (putL A (k + 1)) := by rw [HN]; exact hS5.drew.below hb7
        have hO9 : OB w7 (g + 1) v7 (putL A (k + 1)) := by rw [HN]; exact hO7.mono hg5
        have hB9 : Below w.heap.size w w7 := hB5.drew.trans (hb7.mono hB5.size)
        clear hb7 hO7 hS5 hO5 hB5 HN e1 e2
        obtain ⟨gv, cv, rfl, hov⟩ := hO9
        have hO9 : OB w7 (g + 1) (.slice (some ⟨gv, 0, none⟩) (putL A (k + 1)).length cv) (putL A (k + 1)) := ⟨gv, cv, rfl, hov⟩
        clear hov
        go_wp2_with fail
        refine (count_any g _ _ hS9).mono ?_
        rintro e w10 ⟨rfl, rfl⟩
        go_wp2_with fail
        refine (all_any g _ _ hS9 (by omega)).mono ?_
        rintro e w11 ⟨rfl, hb11⟩
        go_wp2_with fail
        refine (rtext_any _ _ _ _ (hO9.below hb11) (by omega)).mono ?_
        rintro e w12 ⟨rfl, hb12⟩
        have hS12 := (hS9.below hb11).below hb12
        have hO12 := (hO9.below hb11).below hb12
        have hB12 := (hB9.trans (hb11.mono hB9.size)).trans (hb12.mono (Nat.le_trans hB9.size hb11.size))
        clear hS9 hO9 hB9 hb11 hb12
        go_wp2
        go_roundw
        case rel => exact ⟨k + 1, by omega, by go_num, hS12, hO12, hB12⟩
        case measure => simp [intOf]; omega
      by_cases k2 : dk = 2
      · subst k2
        have HN := HN2.out rfl
        go_wp2_with fail
        refine (weven_any g _ _ hS4 (by omega)).mono ?_
        rintro e w5 ⟨rfl, hS5, hG5⟩
        have hO5 := hO4.kept hG5 hvne
        have hB5 : Below w.heap.size w w5 := hB4.grown hG5 hB4.size (fun z hz => by cases hz; exact hgw)
        have hg5 : g < w5.heap.size := hS5.lt
        clear hS4 hO4 hB4 hG5 d0 d1 d2 d3
        go_wp2_with fail
        refine (whole_any v _ _ _ hO5 (by omega)).mono ?_
        rintro e w7 ⟨v7, rfl, hO7, hb7⟩
        have hS9 : SinkAt w7 g (putL A (k + 1)) := by rw [HN]; exact hS5.below hb7
        have hO9 : OB w7 (g + 1) v7 (putL A (k + 1)) := by rw [HN]; exact hO7.mono hg5
        have hB9 : Below w.heap.size w w7 := hB5.trans (hb7.mono hB5.size)
        clear hb7 hO7 hS5 hO5 hB5 HN
        obtain ⟨gv, cv, rfl, hov⟩ := hO9
        have hO9 : OB w7 (g + 1) (.slice (some ⟨gv, 0, none⟩) (putL A (k + 1)).length cv) (putL A (k + 1)) := ⟨gv, cv, rfl, hov⟩
        clear hov
        go_wp2_with fail
        refine (count_any g _ _ hS9).mono ?_
        rintro e w10 ⟨rfl, rfl⟩
        go_wp2_with fail
        refine (all_any g _ _ hS9 (by omega)).mono ?_
        rintro e w11 ⟨rfl, hb11⟩
        go_wp2_with fail
        refine (rtext_any _ _ _ _ (hO9.below hb11) (by omega)).mono ?_
        rintro e w12 ⟨rfl, hb12⟩
        have hS12 := (hS9.below hb11).below hb12
        have hO12 := (hO9.below hb11).below hb12
        have hB12 := (hB9.trans (hb11.mono hB9.size)).trans (hb12.mono (Nat.le_trans hB9.size hb11.size))
        clear hS9 hO9 hB9 hb11 hb12
        go_wp2
        go_roundw
        case rel => exact ⟨k + 1, by omega, by go_num, hS12, hO12, hB12⟩
        case measure => simp [intOf]; omega
      by_cases k3 : dk = 3
      · subst k3
        have HN := HN3.out rfl
        have h40 := few40_size ds
        go_wp2_with fail
        refine (few_40 _ _ q3).mono ?_
        rintro e w4b ⟨rfl, rfl⟩
        go_wp2_with fail
        refine (wtext_any g _ (few40 ds) _ hS4 (by omega) (by omega)).mono ?_
        rintro e w5 ⟨rfl, hS5, hG5⟩
        have hO5 := hO4.kept hG5 hvne
        have hB5 : Below w.heap.size w w5 := hB4.grown hG5 hB4.size (fun z hz => by cases hz; exact hgw)
        have e3 : w5.cell? ⟨gd, 3, none⟩ = some (.string ds) := hG5.cell d3 (fun e => hgdg (Option.some.inj e))
        have hgd5 : gd < w5.heap.size := Nat.lt_of_lt_of_le hgd4 hG5.size
        have hg5 : g < w5.heap.size := hS5.lt
        clear hS4 hO4 hB4 hG5 d0 d1 d2 d3
        go_wp2
        refine wp_region_any (by kernel_rfl) ?_
        change wpAny _ _ _ _ 8 (Array.replicate 8 false) _ (World.drew _)
        refine takeW (i := 0) rfl (by kernel_rfl) (by kernel_rfl) (by kernel_rfl) (fun _ _ _ _ h => h) 65 rfl (v) (Or.inl ⟨by rfl, by intro w; go_simp⟩) ?_
        simp only [Act.put, List.setIfInBounds_toArray, List.set_cons_zero, List.set_cons_succ]
        refine takeW (i := 2) rfl (by kernel_rfl) (by kernel_rfl) (by kernel_rfl) (fun _ _ _ _ h => h) 67 rfl (.pointer (some ⟨gd, 3, none⟩)) (Or.inl ⟨by rfl, by intro w; go_simp⟩) ?_
        simp only [Act.put, List.setIfInBounds_toArray, List.set_cons_zero, List.set_cons_succ]
        refine wpAny_ready (rs := [1, 3]) (by kernel_rfl) (by simp) ?_
        refine AllReady.cons rfl (fun K hK => ?_) (AllReady.cons rfl (fun K hK => ?_) AllReady.nil)
        · refine armW_callE rfl (some 66) rfl 24 #[v] (by intro w; go_simp) (whole_any v _ _ _ hO5.drew (by omega)) ?_
          rintro v6 w6 ⟨hO6, hb6⟩
          have e3 : w6.cell? ⟨gd, 3, none⟩ = some (.string ds) := (hb6.cell (p := ⟨gd, 3, none⟩) hgd5).trans e3
          refine hK _ _ ?_
          clear hK
          simp only [Act.put, List.setIfInBounds_toArray, List.set_cons_zero, List.set_cons_succ]
          refine wpAny_ready (rs := [3]) (by kernel_rfl) (by simp) ?_
          refine AllReady.cons rfl (fun K hK => ?_) AllReady.nil
          refine armW_str rfl 68 rfl _ rfl gd 3 (by rfl) ds e3 (hK _ _ ?_)
          clear hK
          simp only [Act.put, List.setIfInBounds_toArray, List.set_cons_zero, List.set_cons_succ]
          refine wpAny_ready (rs := [4]) (by kernel_rfl) (by simp) ?_
          refine AllReady.cons rfl (fun K hK => ?_) AllReady.nil
          refine armW_call rfl (some 69) rfl 8 #[.string ds, .int .i64 40] (by intro w; go_simp) (few_40 ds _ q3) ?_
          rintro w6b rfl
          refine hK _ _ ?_
          clear hK
          simp only [Act.put, List.setIfInBounds_toArray, List.set_cons_zero, List.set_cons_succ]
          refine wpAny_ready (rs := [5]) (by kernel_rfl) (by simp) ?_
          refine AllReady.cons rfl (fun K hK => ?_) AllReady.nil
          refine armW_callE rfl (some 70) rfl 10 #[.string (few40 ds)] (by intro w; go_simp) (row_any (few40 ds) _ (by omega)) ?_
          rintro v8 w8 ⟨hO8, hb8⟩
          refine hK _ _ ?_
          clear hK
          simp only [Act.put, List.setIfInBounds_toArray, List.set_cons_zero, List.set_cons_succ]
          refine wpAny_ready (rs := [6]) (by kernel_rfl) (by simp) ?_
          refine AllReady.cons rfl (fun K hK => ?_) AllReady.nil
          have hO68 := hO6.below hb8
          obtain ⟨g6, c6, rfl, ho6⟩ := hO68
          obtain ⟨g8, c8, rfl, ho8⟩ := hO8
          have hO8 : OB w8 _ (.slice (some ⟨g8, 0, none⟩) (rowOf (few40 ds).data.toList).length c8) (rowOf (few40 ds).data.toList) := ⟨g8, c8, rfl, ho8⟩
          refine armW_append rfl 71 rfl (.tmp 66) (.tmp 70) 26 rfl (g + 1) 4 i0 (.bool false) 1 1 Try.underlying26 hi hz0 hz1 hz2 rfl (by decide) _ _ (cbs (evenL (putL A k))) (by rfl) (OB.own (OB.mono ⟨g6, c6, rfl, ho6⟩ hg5)) ⟨g8, 0, none⟩ (rowOf (few40 ds).data.toList).length c8 (cbs (rowOf (few40 ds).data.toList)) (by rfl) (by rw [cbs_len, Nat.mul_one]) (fun j u hu => ?n1) (cbs_one _) ?n2 ?n3 ?n4 (fun v9 w9 ho9 hg9 hne9 => ?_)
          case n1 =>
            have hj : j < (rowOf (few40 ds).data.toList).length := by have := (List.getElem?_eq_some_iff.1 hu).1; rwa [cbs_len] at this
            rw [Addr.add_lit, Nat.zero_add, hO8.cell j hj, ← cbs_at _ _ hj]; exact hu
          case n2 => unfold maxLen; rw [evenL_len, rowOf_len, size_toList]; omega
          case n3 => rw [evenL_len, rowOf_len, size_toList]; omega
          case n4 => exact Nat.le_trans hg5 (Nat.le_trans hb6.size hb8.size)
          refine hK _ _ ?_
          clear hK
          simp only [Act.put, List.setIfInBounds_toArray, List.set_cons_zero, List.set_cons_succ]
          refine takeW (i := 7) rfl (by kernel_rfl) (by kernel_rfl) (by kernel_rfl) (fun _ _ _ _ h => h) 4 rfl v9 (Or.inl ⟨by rfl, by intro w; go_simp⟩) ?_
          simp only [Act.put, List.setIfInBounds_toArray, List.set_cons_zero, List.set_cons_succ]
          refine wpAny_done (by kernel_rfl) ?_ _
          have hb68 : Below w5.heap.size w5 w8 := ((Below.refl _ w5).drew.trans hb6).trans (hb8.mono hb6.size)
          have hS9 : SinkAt w9 g (putL A (k + 1)) := by rw [HN]; exact hS5.since (hb68.grown hg9 hb68.size (fun z hz => by cases hz; exact OB.low ho6))
          have hO9 : OB w9 (g + 1) v9 (putL A (k + 1)) := by rw [HN]; exact OB.of (by rw [cbs_append]; exact ho9) (fun h => by have := (hne9.1 h).1; simp at this)
          have hB9 : Below w.heap.size w w9 := (hB5.trans (hb68.mono hB5.size)).grown hg9 (Nat.le_trans hB5.size hb68.size) (fun z hz => by cases hz; exact Nat.le_trans hB5.size (OB.low ho6))
          clear hb68 hb6 hb8 hO6 ho6 hO8 ho8 ho9 hg9 hne9 hS5 hO5 hB5 HN e3
          obtain ⟨gv, cv, rfl, hov⟩ := hO9
          have hO9 : OB w9 (g + 1) (.slice (some ⟨gv, 0, none⟩) (putL A (k + 1)).length cv) (putL A (k + 1)) := ⟨gv, cv, rfl, hov⟩
          clear hov
          go_wp2_with fail
          refine (count_any g _ _ hS9).mono ?_
          rintro e w10 ⟨rfl, rfl⟩
          go_wp2_with fail
          refine (all_any g _ _ hS9 (by omega)).mono ?_
          rintro e w11 ⟨rfl, hb11⟩
          go_wp2_with fail
          refine (rtext_any _ _ _ _ (hO9.below hb11) (by omega)).mono ?_
          rintro e w12 ⟨rfl, hb12⟩
          have hS12 := (hS9.below hb11).below hb12
          have hO12 := (hO9.below hb11).below hb12
          have hB12 := (hB9.trans (hb11.mono hB9.size)).trans (hb12.mono (Nat.le_trans hB9.size hb11.size))
          clear hS9 hO9 hB9 hb11 hb12
          go_wp2
          go_roundw
          case rel => exact ⟨k + 1, by omega, by go_num, hS12, hO12, hB12⟩
          case measure => simp [intOf]; omega
        · refine armW_str rfl 68 rfl _ rfl gd 3 (by rfl) ds e3 (hK _ _ ?_)
          clear hK
          simp only [Act.put, List.setIfInBounds_toArray, List.set_cons_zero, List.set_cons_succ]
          refine wpAny_ready (rs := [1]) (by kernel_rfl) (by simp) ?_
          refine AllReady.cons rfl (fun K hK => ?_) AllReady.nil
          refine armW_callE rfl (some 66) rfl 24 #[v] (by intro w; go_simp) (whole_any v _ _ _ hO5.drew (by omega)) ?_
          rintro v6 w6 ⟨hO6, hb6⟩
          have e3 : w6.cell? ⟨gd, 3, none⟩ = some (.string ds) := (hb6.cell (p := ⟨gd, 3, none⟩) hgd5).trans e3
          refine hK _ _ ?_
          clear hK
          simp only [Act.put, List.setIfInBounds_toArray, List.set_cons_zero, List.set_cons_succ]
          refine wpAny_ready (rs := [4]) (by kernel_rfl) (by simp) ?_
          refine AllReady.cons rfl (fun K hK => ?_) AllReady.nil
          refine armW_call rfl (some 69) rfl 8 #[.string ds, .int .i64 40] (by intro w; go_simp) (few_40 ds _ q3) ?_
          rintro w6b rfl
          refine hK _ _ ?_
          clear hK
          simp only [Act.put, List.setIfInBounds_toArray, List.set_cons_zero, List.set_cons_succ]
          refine wpAny_ready (rs := [5]) (by kernel_rfl) (by simp) ?_
          refine AllReady.cons rfl (fun K hK => ?_) AllReady.nil
          refine armW_callE rfl (some 70) rfl 10 #[.string (few40 ds)] (by intro w; go_simp) (row_any (few40 ds) _ (by omega)) ?_
          rintro v8 w8 ⟨hO8, hb8⟩
          refine hK _ _ ?_
          clear hK
          simp only [Act.put, List.setIfInBounds_toArray, List.set_cons_zero, List.set_cons_succ]
          refine wpAny_ready (rs := [6]) (by kernel_rfl) (by simp) ?_
          refine AllReady.cons rfl (fun K hK => ?_) AllReady.nil
          have hO68 := hO6.below hb8
          obtain ⟨g6, c6, rfl, ho6⟩ := hO68
          obtain ⟨g8, c8, rfl, ho8⟩ := hO8
          have hO8 : OB w8 _ (.slice (some ⟨g8, 0, none⟩) (rowOf (few40 ds).data.toList).length c8) (rowOf (few40 ds).data.toList) := ⟨g8, c8, rfl, ho8⟩
          refine armW_append rfl 71 rfl (.tmp 66) (.tmp 70) 26 rfl (g + 1) 4 i0 (.bool false) 1 1 Try.underlying26 hi hz0 hz1 hz2 rfl (by decide) _ _ (cbs (evenL (putL A k))) (by rfl) (OB.own (OB.mono ⟨g6, c6, rfl, ho6⟩ hg5)) ⟨g8, 0, none⟩ (rowOf (few40 ds).data.toList).length c8 (cbs (rowOf (few40 ds).data.toList)) (by rfl) (by rw [cbs_len, Nat.mul_one]) (fun j u hu => ?n1) (cbs_one _) ?n2 ?n3 ?n4 (fun v9 w9 ho9 hg9 hne9 => ?_)
          case n1 =>
            have hj : j < (rowOf (few40 ds).data.toList).length := by have := (List.getElem?_eq_some_iff.1 hu).1; rwa [cbs_len] at this
            rw [Addr.add_lit, Nat.zero_add, hO8.cell j hj, ← cbs_at _ _ hj]; exact hu
          case n2 => unfold maxLen; rw [evenL_len, rowOf_len, size_toList]; omega
          case n3 => rw [evenL_len, rowOf_len, size_toList]; omega
          case n4 => exact Nat.le_trans hg5 (Nat.le_trans hb6.size hb8.size)
          refine hK _ _ ?_
          clear hK
          simp only [Act.put, List.setIfInBounds_toArray, List.set_cons_zero, List.set_cons_succ]
          refine takeW (i := 7) rfl (by kernel_rfl) (by kernel_rfl) (by kernel_rfl) (fun _ _ _ _ h => h) 4 rfl v9 (Or.inl ⟨by rfl, by intro w; go_simp⟩) ?_
          simp only [Act.put, List.setIfInBounds_toArray, List.set_cons_zero, List.set_cons_succ]
          refine wpAny_done (by kernel_rfl) ?_ _
          have hb68 : Below w5.heap.size w5 w8 := ((Below.refl _ w5).drew.trans hb6).trans (hb8.mono hb6.size)
          have hS9 : SinkAt w9 g (putL A (k + 1)) := by rw [HN]; exact hS5.since (hb68.grown hg9 hb68.size (fun z hz => by cases hz; exact OB.low ho6))
          have hO9 : OB w9 (g + 1) v9 (putL A (k + 1)) := by rw [HN]; exact OB.of (by rw [cbs_append]; exact ho9) (fun h => by have := (hne9.1 h).1; simp at this)
          have hB9 : Below w.heap.size w w9 := (hB5.trans (hb68.mono hB5.size)).grown hg9 (Nat.le_trans hB5.size hb68.size) (fun z hz => by cases hz; exact Nat.le_trans hB5.size (OB.low ho6))
          clear hb68 hb6 hb8 hO6 ho6 hO8 ho8 ho9 hg9 hne9 hS5 hO5 hB5 HN e3
          obtain ⟨gv, cv, rfl, hov⟩ := hO9
          have hO9 : OB w9 (g + 1) (.slice (some ⟨gv, 0, none⟩) (putL A (k + 1)).length cv) (putL A (k + 1)) := ⟨gv, cv, rfl, hov⟩
          clear hov
          go_wp2_with fail
          refine (count_any g _ _ hS9).mono ?_
          rintro e w10 ⟨rfl, rfl⟩
          go_wp2_with fail
          refine (all_any g _ _ hS9 (by omega)).mono ?_
          rintro e w11 ⟨rfl, hb11⟩
          go_wp2_with fail
          refine (rtext_any _ _ _ _ (hO9.below hb11) (by omega)).mono ?_
          rintro e w12 ⟨rfl, hb12⟩
          have hS12 := (hS9.below hb11).below hb12
          have hO12 := (hO9.below hb11).below hb12
          have hB12 := (hB9.trans (hb11.mono hB9.size)).trans (hb12.mono (Nat.le_trans hB9.size hb11.size))
          clear hS9 hO9 hB9 hb11 hb12
          go_wp2
          go_roundw
          case rel => exact ⟨k + 1, by omega, by go_num, hS12, hO12, hB12⟩
          case measure => simp [intOf]; omega
      have HN := HN4.out k0 k1 k2 k3
      have z0 := kind_ne k0
      have z1 := kind_ne k1
      have z2 := kind_ne k2
      have z3 := kind_ne k3
      have hS9 : SinkAt W g (putL A (k + 1)) := by rw [HN]; exact hS4
      have hO9 : OB W (g + 1) v (putL A (k + 1)) := by rw [HN]; exact hO4
      have hB9 : Below w.heap.size w W := hB4
      clear hS4 hO4 hB4 HN
      obtain ⟨gv, cv, rfl, hov⟩ := hO9
      have hO9 : OB W (g + 1) (.slice (some ⟨gv, 0, none⟩) (putL A (k + 1)).length cv) (putL A (k + 1)) := ⟨gv, cv, rfl, hov⟩
      clear hov
      go_wp2_with fail
      refine (count_any g _ _ hS9).mono ?_
      rintro e w10 ⟨rfl, rfl⟩
      go_wp2_with fail
      refine (all_any g _ _ hS9 (by omega)).mono ?_
      rintro e w11 ⟨rfl, hb11⟩
      go_wp2_with fail
      refine (rtext_any _ _ _ _ (hO9.below hb11) (by omega)).mono ?_
      rintro e w12 ⟨rfl, hb12⟩
      have hS12 := (hS9.below hb11).below hb12
      have hO12 := (hO9.below hb11).below hb12
      have hB12 := (hB9.trans (hb11.mono hB9.size)).trans (hb12.mono (Nat.le_trans hB9.size hb11.size))
      clear hS9 hO9 hB9 hb11 hb12
      go_wp2
      go_roundw
      case rel => exact ⟨k + 1, by omega, by go_num, hS12, hO12, hB12⟩
      case measure => simp [intOf]; omega
    · obtain rfl : k = K := by omega
      have hnot := HK.out k (Nat.le_refl _) hlt
      by_cases hkl : k < len
      all_goals
        try have hk60 : ¬ (k : Int) < 60 := fun h => hnot ⟨hkl, by omega⟩
        clear hnot
        go_wp2
        go_ret
        exact ⟨rfl, hB⟩
end Go.Proofs.Ytbkaeibjhnndfaa
