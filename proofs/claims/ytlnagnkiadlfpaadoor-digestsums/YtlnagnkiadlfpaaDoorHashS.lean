/- Contract of (*digest.Hash).Sum. -/
import Derived.Test.YtlnagnkiadlfpaaDoorHashWr
import Derived.Test.YtlnagnkiadlfpaaDoorPad
import Derived.Deep.DeepCutAuto
import Derived.Deep.RegionHeld
import Derived.Deep.AppendLies
namespace Go.Proofs.YtlnagnkiadlfpaaDoor
open Go.RowKit
attribute [local go_sem ↓] Go.wp_at_zero Go.wp_at_succ
set_option linter.unusedVariables false

/-- What stays while a sum is asked. -/
def HS (w : World) (g : Nat) (t : List UInt8) (w' : World) : Prop := (HashAt w' g t ∧ Roots w' ∧ Below w.heap.size w w') ∧ w'.cell? ⟨g, 72, none⟩ = some (.int .u64 (t.length : Int))
theorem HS.size {w w' : World} {g : Nat} {t : List UInt8} (h : HS w g t w') : w.heap.size ≤ w'.heap.size := h.1.2.2.size
theorem HS.below {w W w1 : World} {g : Nat} {t : List UInt8} (h : HS w g t W) (hb : Below W.heap.size W w1) : HS w g t w1 :=
  ⟨⟨h.1.1.below hb, h.1.2.1.below hb, h.1.2.2.trans (hb.mono h.size)⟩, by rw [World.cell?_of_block (hb.block _ h.1.1.lt)]; exact h.2⟩
theorem HS.alloc {w W : World} {g : Nat} {t : List UInt8} (h : HS w g t W) (o : Obj) : HS w g t (W.alloc o) := h.below ((Below.refl _ W).alloc (Nat.le_refl _) _)
theorem HS.set {w W : World} {g : Nat} {t : List UInt8} (h : HS w g t W) (o : Obj) (cs : Array Value) : HS w g t ((W.alloc o).setRow W.heap.size cs) := h.below (below_setRow ((Below.refl _ W).alloc (Nat.le_refl _) _) (Nat.le_refl _) _)
theorem HS.start {w : World} {g : Nat} {t : List UInt8} (hH : HashAt w g t) (hR : Roots w) : HS w g t w := ⟨⟨hH, hR, Below.refl _ _⟩, by obtain ⟨st, rs, h⟩ := hH; exact h.size⟩
theorem HS.drew {w W : World} {g : Nat} {t : List UInt8} (h : HS w g t W) : HS w g t W.drew := ⟨⟨h.1.1.drew, h.1.2.1, h.1.2.2.drew⟩, h.2⟩
theorem HS.held {w W : World} {g : Nat} {t : List UInt8} (h : HS w g t W) : HS w g t W ∧ W.cell? ⟨g, 72, none⟩ = some (.int .u64 (t.length : Int)) := ⟨h, h.2⟩
theorem HS.held4 {w W w1 : World} {g : Nat} {t : List UInt8} (h : HS w g t W) (hb : Below W.heap.size W w1) : HS w g t w1 ∧ w1.cell? ⟨g, 72, none⟩ = some (.int .u64 (t.length : Int)) := (h.below hb).held
theorem HS.heldS {w W : World} {g : Nat} {t : List UInt8} (h : HS w g t W) (o : Obj) (cs : Array Value) : HS w g t ((W.alloc o).setRow W.heap.size cs) ∧ ((W.alloc o).setRow W.heap.size cs).cell? ⟨g, 72, none⟩ = some (.int .u64 (t.length : Int)) := (h.set o cs).held
theorem HS.bel {w W : World} {g : Nat} {t : List UInt8} (h : HS w g t W) : Below w.heap.size w W := h.1.2.2
theorem S8.small {s : S8} (h : s.ok) : Small s.list := by
  obtain ⟨h1, h2, h3, h4, h5, h6, h7, h8⟩ := h
  intro x hx
  simp [S8.list] at hx
  rcases hx with rfl | rfl | rfl | rfl | rfl | rfl | rfl | rfl <;> assumption
theorem take_wb (L : List Nat) (k : Nat) (h : k < L.length) : (L.take (k + 1)).flatMap wb = (L.take k).flatMap wb ++ wb (L.getD k 0) := by
  rw [List.take_add_one, List.flatMap_append, List.getElem?_eq_getElem h, List.getD_eq_getElem?_getD, List.getElem?_eq_getElem h]
  simp only [Option.toList_some, List.flatMap_cons, List.flatMap_nil, List.append_nil, Option.getD_some]
theorem idx8 (L : List Nat) (k : Nat) (hk : k < 8) (v : Value) (h : (wl L)[k]? = some v) (W : World) : (Instr.index 42 (.agg (wl L)) (.int .i64 (k : Int))).run Tryd.prog W = .ok v W := by
  have h1 : (0 : Int) ≤ (k : Int) ∧ (k : Int) < 8 := by omega
  simp [Instr.index, run_underlying Tryd.underlying42, asIntOf, h1, part, Tryd.sizeOf41, Tryd.isAgg41, h]
  omega
theorem wb_cells (X : Nat) (h : X < 4294967296) : cs (wb X) = [.int .u8 ((X : Int) / 16777216), .int .u8 ((X : Int) / 65536 % 256), .int .u8 ((X : Int) / 256 % 256), .int .u8 ((X : Int) % 256)] := by
  have e : X / 16777216 % 256 = X / 16777216 := Nat.mod_eq_of_lt (by omega)
  simp [cs, wb, e]
theorem cs_app (l m : List Nat) : cs (l ++ m) = cs l ++ cs m := by simp [cs]
theorem HS.mixed {w W : World} {g : Nat} {t : List UInt8} (h : HS w g t W) (ht : t.length ≤ 140737488351232) :
    Calls Tryd.prog 25 #[.pointer (some ⟨g, 0, none⟩)] W fun e w' => e = .returned (.agg (wl (mixL iv t).1.list)) ∧ Below W.heap.size W w' := mixed_any g t W h.1.1 (by omega)
theorem HS.pending {w W : World} {g : Nat} {t : List UInt8} (h : HS w g t W) (ht : t.length ≤ 140737488351232) :
    Calls Tryd.prog 26 #[.pointer (some ⟨g, 0, none⟩)] W fun e w' => e = .returned (.string (tx (mixL iv t).2)) ∧ Below W.heap.size W w' := pending_any g t W h.1.1 (by omega)
/-- The words, as the last call gives them. -/
theorem HS.all {w W : World} {g : Nat} {t : List UInt8} (h : HS w g t W) :
    Calls Tryd.prog 24 #[.agg (wl (mixL iv t).1.list), .string (tx (mixL iv t).2 ++ tx (padL t.length))] W fun e w' => e = .returned (.tuple #[.agg (wl (shaW t).list), .string (tx [])]) ∧ Below W.heap.size W w' := by
  have h1 := mixL_left iv t
  have h2 := padL_len t.length
  have e : mixL (mixL iv t).1 (tx (mixL iv t).2 ++ tx (padL t.length)).data.toList = mixL iv (t ++ padL t.length) := by rw [tx_append, tx_data, ← mixL_append]
  have hcall := mixAll_any (mixL iv t).1 (tx (mixL iv t).2 ++ tx (padL t.length)) W (mixL_ok _ _ iv_ok) (by rw [tx_append, tx_size, List.length_append, h1, h2]; omega) h.1.2.1
  rw [e] at hcall
  have e2 : (mixL iv (t ++ padL t.length)).2 = [] := List.eq_nil_of_length_eq_zero (by rw [mixL_left, List.length_append, padded])
  rw [e2] at hcall
  exact hcall

theorem store8' (B : Nat) (W : World) (s : S8) (hB : W.heap[B]? = some (.cells z8 42 (0, 0))) : (storeCells ⟨B, 0, none⟩ (wl s.list).toList).run Tryd.prog W = .ok () (W.setRow B (wl s.list)) := by
  have h := run_storeCells_from (P := Tryd.prog) B 42 (wl s.list).toList 0 z8 W hB (by rw [Array.length_toList, ← z8_of s]; omega) (fun v hv => (Array.all_eq_true_iff_forall_mem.1 (wl_one s.list)) v (by simpa using hv))
  rw [h]
  rfl
theorem rowA {W w1 : World} {cs : Array Value} {ty : TypeId} (hb : Below (W.alloc (.cells cs ty)).heap.size (W.alloc (.cells cs ty)) w1) : w1.heap[W.heap.size]? = some (.cells cs ty (0, 0)) := by
  rw [hb.block W.heap.size (by rw [World.size_alloc]; omega)]; exact heap_alloc_new W _
theorem rowA2 {W w1 : World} {cs : Array Value} {ty : TypeId} (hb : Below (W.alloc (.cells cs ty)).drew.heap.size (W.alloc (.cells cs ty)).drew w1) : w1.heap[W.heap.size]? = some (.cells cs ty (0, 0)) := by
  rw [hb.block W.heap.size (by show W.heap.size < (W.alloc _).heap.size; rw [World.size_alloc]; omega)]; exact heap_alloc_new W _
theorem rowB {W w1 : World} {B : Nat} {o : Obj} (hb : Below W.heap.size W w1) (h : W.heap[B]? = some o) : w1.heap[B]? = some o := by
  rcases Nat.lt_or_ge B W.heap.size with hl | hl
  · rw [hb.block B hl]; exact h
  · rw [Array.getElem?_eq_none hl] at h; cases h
theorem HS.heldR {w W : World} {g B : Nat} {t : List UInt8} (h : HS w g t W) (hB : w.heap.size ≤ B) (hg : g < w.heap.size) (h0 : 0 < w.heap.size) (cs : Array Value) : HS w g t (W.setRow B cs) ∧ (W.setRow B cs).cell? ⟨g, 72, none⟩ = some (.int .u64 (t.length : Int)) := by
  refine HS.held ⟨⟨?_, ?_, below_setRow h.1.2.2 hB cs⟩, ?_⟩
  · obtain ⟨st, rs, h1, h2⟩ := h.1.1
    exact ⟨st, rs, by rw [setRow_other _ _ _ _ (by omega)]; exact h1, h2⟩
  · obtain ⟨ty, fr, h1⟩ := h.1.2.1
    exact ⟨ty, fr, by rw [setRow_other _ _ _ _ (by omega)]; exact h1⟩
  · rw [World.cell?_of_block (setRow_other _ _ _ _ (by simp; omega))]; exact h.2
theorem store8 (W : World) (s : S8) : (storeCells ⟨W.heap.size, 0, none⟩ (wl s.list).toList).run Tryd.prog (W.alloc (.cells z8 42)) = .ok () ((W.alloc (.cells z8 42)).setRow W.heap.size (wl s.list)) := by
  have h := run_storeCells_from (P := Tryd.prog) W.heap.size 42 (wl s.list).toList 0 z8 _ (heap_alloc_new W _) (by rw [Array.length_toList, ← z8_of s]; omega) (fun v hv => (Array.all_eq_true_iff_forall_mem.1 (wl_one s.list)) v (by simpa using hv))
  rw [h]
  rfl

set_option maxRecDepth 100000 in
set_option maxHeartbeats 1000000 in
theorem hsum_any (g : Nat) (t : List UInt8) (w : World) (hH : HashAt w g t) (ht : t.length ≤ 140737488351232) (hR : Roots w) :
    Calls Tryd.prog 19 #[.pointer (some ⟨g, 0, none⟩)] w fun e w' => e = .returned (.string (shaS t)) ∧ Below w.heap.size w w' := by
  have hz := (zero_of_info Tryd.zero8).1
  have ht' : t.length ≤ 140737488355328 := by omega
  have hS0 := HS.start hH hR
  have hgl := hH.lt
  have hpos := hR.pos
  have hst := fun W : World => store8 W (shaW t)
  have hst2 := fun (B : Nat) (W : World) (hB : W.heap[B]? = some (.cells z8 42 (0, 0))) => store8' B W (shaW t) hB
  have hp : (tx (mixL iv t).2).size < 64 := by rw [tx_size, mixL_left]; exact Nat.mod_lt _ (by decide)
  have hq : (tx (padL t.length)).size ≤ 100 := by rw [tx_size, padL_len]; omega
  go_enter Tryd.func19, Tryd.ntmps19
  go_upto_region 1 with fail
  go_cut [3, 4] (fun p q wx => ∃ B, p = .pointer (some ⟨B, 0, none⟩) ∧ q = .string (tx []) ∧ wx.heap[B]? = some (.cells (wl (shaW t).list) 42 (0, 0)) ∧ Below w.heap.size w wx)
  case first =>
    have hsz0 : w.heap.size ≤ w.drew.heap.size := Nat.le_refl _
    go_region_held (fun w' => HS w g t w' ∧ w'.cell? ⟨g, 72, none⟩ = some (.int .u64 (t.length : Int))) (first | assumption | exact hS0.drew.held | exact HS.held4 (And.left (by assumption)) hb4 | exact HS.held4 (And.left (by assumption)) hb3 | exact HS.held4 (And.left (by assumption)) hb2 | exact HS.held4 (And.left (by assumption)) hb1 | exact HS.held (HS.alloc (And.left (by assumption)) _) | exact HS.heldR (And.left (by assumption)) (by first | exact Nat.le_refl _ | assumption) hgl hpos _)
      (first
        | (go_at_call 25; refine (HS.mixed (w := w) (And.left (by assumption)) ht).mono ?_; rintro e w1 ⟨rfl, hb1⟩; have hsz1 : w.heap.size ≤ w1.heap.size := HS.size (HS.below (And.left (by assumption)) hb1); first | have hz1 : w1.heap[w.heap.size]? = some (.cells z8 42 (0, 0)) := rowA hb1 | have hz1 : w1.heap[w.heap.size]? = some (.cells z8 42 (0, 0)) := rowA2 hb1 | skip)
        | (go_at_call 26; refine (HS.pending (w := w) (And.left (by assumption)) ht).mono ?_; rintro e w2 ⟨rfl, hb2⟩; have hsz2 : w.heap.size ≤ w2.heap.size := HS.size (HS.below (And.left (by assumption)) hb2); first | have hz2 := rowA hb2 | have hz2 := rowB hb2 hz1 | skip)
        | (go_at_call 27; refine (padding_any _ _ ht').mono ?_; rintro e w3 ⟨rfl, hb3⟩; have hsz3 : w.heap.size ≤ w3.heap.size := HS.size (g := g) (t := t) (HS.below (And.left (by assumption)) hb3); first | have hz3 := rowA hb3 | have hz3 := rowB hb3 hz2 | skip)
        | (go_at_call 24; refine (HS.all (w := w) (g := g) (And.left (by assumption))).mono ?_; rintro e w4 ⟨rfl, hb4⟩; have hsz4 : w.heap.size ≤ w4.heap.size := HS.size (g := g) (t := t) (HS.below (And.left (by assumption)) hb4); first | have hz4 := rowA hb4 | have hz4 := rowB hb4 hz3 | skip))
    all_goals (go_wp2; go_meet)
    all_goals exact ⟨_, rfl, rfl, setRow_heap _ _ _ _ _ _ (by first | exact heap_alloc_new _ _ | assumption), HS.bel (g := g) (t := t) (And.left (by assumption))⟩
  case rest =>
    obtain ⟨B, rfl, rfl, hrow, hbel⟩ := hcut
    have HL : Hid (shaS t = bs ((shaW t).list.flatMap wb)) := rfl
    have hlen : (shaW t).list.length = 8 := rfl
    have hsm := S8.small (shaW_ok t)
    have HI : Hid ((Tryd.prog.info? 42).map (·.size) = some (wl (shaW t).list).size) := i8_of (shaW t)
    have HRW : Hid (_ = _) := hrow
    have hws : (wl (shaW t).list).size = 8 := by rw [wl_size]; rfl
    clear hst hst2 hS0 hp hq hz hH hR hrow
    generalize (shaW t).list = L at *
    obtain ⟨i0, hi, hz0, hz1, hz2⟩ := info_parts Tryd.infoU8
    go_wp2_with (refine wpList_load_row rfl 42 _ rfl B rfl 42 (wl L) (0, 0) _ HRW.out Tryd.underlying42 rfl HI.out ?_)
    clear HRW HI
    go_loopw [5, 23] (fun v i wr => ∃ k : Nat, k ≤ 8 ∧ i = .int .i64 (k : Int) ∧ wr.ownsRow w.heap.size 5 1 v (4 * k) (cs ((L.take k).flatMap wb)) ∧ Below w.heap.size w wr) (fun _ i _ => 8 - (intOf i).toNat)
    case atStart => exact ⟨0, by omega, rfl, World.ownsRow_nil _ _ _ _, hbel⟩
    case round =>
      clear hbel
      obtain ⟨k, hk, rfl, hown, hbel⟩ := hrel
      by_cases hlt : k < 8
      · have hx := hsm.getD k
        have hat := wl_at L k (by omega)
        have HS' : Hid (_ = _) := take_wb L k (by omega)
        have hidx := idx8 L k hlt _ hat
        clear hat
        generalize L.getD k 0 = X at *
        have HW : Hid (cs (wb X) = _) := wb_cells X hx
        go_wp2_with (at_builtin; refine wpList_append_own _ rfl _ _ 40 rfl w.heap.size 5 i0 (.int .u8 0) 1 1 Tryd.underlying40 hi hz0 hz1 hz2 rfl (by decide) _ _ _ rfl (hown.alloc _) ⟨wr.heap.size, 0, none⟩ 4 4 (cs (wb X)) rfl rfl ?c1 ?c2 ?c3 ?c4 ?c5 ?_)
        case c1 => rw [HW.out]; exact World.news_of_block (heap_alloc_new wr _)
        case c2 => intro u hu; rw [HW.out] at hu; simp at hu; rcases hu with rfl | rfl | rfl | rfl <;> rfl
        case c3 => unfold maxLen; omega
        case c4 => omega
        case c5 => have := hbel.size; simp; omega
        intro v' w1 hown' hgrow _
        have hb' := bel_append hbel (below_size hbel (Nat.le_refl _)) hown hgrow
        have ho' : w1.ownsRow w.heap.size 5 1 v' (4 * (k + 1)) (cs ((L.take (k + 1)).flatMap wb)) := by rw [HS'.out, cs_app]; exact hown'
        clear hown' hgrow hown hbel hidx
        go_wp2
        go_roundw
        case rel => exact ⟨k + 1, by omega, by go_num, ho', hb'⟩
        case measure => simp [intOf]; omega
      · obtain rfl : k = 8 := by omega
        have hc := conv_bs (P := Tryd.prog) (dst := 9) Tryd.underlying40 Tryd.underlying5 Tryd.underlying9 hown
        have HT : Hid (L.take 8 = L) := List.take_of_length_le (by omega)
        clear hown
        go_wp2
        go_ret
        refine ⟨?_, hbel⟩
        rw [HL.out]; show Ending.returned (.string (bs ((L.take 8).flatMap wb))) = _; rw [HT.out]
end Go.Proofs.YtlnagnkiadlfpaaDoor
