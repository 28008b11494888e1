/- Contract: the law's awake of layer 14. -/
import Derived.Test.YtgpfbahmkbdjmabDskL
import Derived.Test.YtgpfbahmkbdjmabDskN
namespace Go.Proofs.Ytgpfbahmkbdjmab
open Go.RowKit Go.Maps
set_option linter.unusedVariables false
set_option linter.unusedSimpArgs false

theorem DK.less {w : World} {d : Nat} {S : DS} {K K' : Nat → Prop} {gs : List Nat} (h : DK w d S K gs) (hK : ∀ k, K' k → K k) : DK w d S K' gs :=
  h.kept (fun k hk _ => rfl) (fun k hk => ⟨h.Kb k (hK k hk), .inl (hK k hk)⟩)
theorem DK.new1 {w : World} {d : Nat} {S : DS} {K : Nat → Prop} {gs : List Nat} (h : DK w d S K gs) (o : Obj) : DK (w.alloc o) d S (fun k => K k ∨ k = w.heap.size) gs :=
  h.kept (fun k hk _ => Below.heap_alloc _ _ _ hk) (fun k hk => by
    rcases hk with hk | hk
    · exact ⟨by have := h.Kb k hk; simp; omega, .inl hk⟩
    · subst hk; exact ⟨by simp, .inr (Nat.le_refl _)⟩)
theorem KSl_one (w : World) (z : Int) (h0 : -9223372036854775808 ≤ z) (h1 : z ≤ 9223372036854775807) : KSl (w.alloc (.cells #[.int .i64 z] 3)) (.slice (some ⟨w.heap.size, 0, none⟩) 1 1) [z] := by
  refine ⟨_, 1, rfl, Nat.le_refl _, by simp, fun i hi => ⟨w.heap.size, 0, rfl, by simp, ?_⟩, fun y hy => by rw [List.mem_singleton] at hy; subst hy; exact ⟨h0, h1⟩⟩
  have : i = 0 := by simp at hi; exact hi
  subst this
  exact (cell_of_row _ _ _ _ _ _ (heap_alloc_new w _)).trans rfl
/-- A slice of numbers that came in. -/
theorem IsRow.ksl {w : World} {a : Option Addr} {len cap : Nat} {zs : List Int} (h : IsRow .i64 w a len cap zs) : KSl w (.slice a len cap) (zs.take len) ∧ (0 < (zs.take len).length → ∀ r, (Value.slice a len cap).ownBlock = some r → r < w.heap.size) := by
  rcases h with ⟨rfl, rfl, rfl, rfl⟩ | ⟨x, rfl, h1, h2, h3, h4, h5⟩
  · exact ⟨⟨none, 0, rfl, Nat.le_refl _, by simp, fun i hi => (by simp at hi), fun z hz => (by simp at hz)⟩, fun h => (by simp at h)⟩
  · have hl : (zs.take len).length = len := by rw [List.length_take]; omega
    have hx : ∀ i, i < len → ∃ b o, x = ⟨b, o, none⟩ ∧ b < w.heap.size ∧ w.cell? ⟨b, o + i, none⟩ = some (.int .i64 (zs.getD i 0)) := fun i hi => by
      have hc := h4 i (by omega)
      obtain ⟨b, o, s⟩ := x
      cases s with
      | none => rw [Addr.add_mid] at hc; exact ⟨b, o, rfl, World.block_lt_of_cell? _ _ hc, hc⟩
      | some s =>
        exfalso
        have h0 := h4 0 (by omega)
        rw [show (⟨b, o, some s⟩ : Addr).add 0 = ⟨b, o, some s⟩ by simp [Addr.add]] at h0
        unfold World.cell? at h0
        split at h0 <;> simp at h0
    refine ⟨⟨some x, cap, by rw [hl], by rw [hl]; exact h1, by rw [hl]; omega, fun i hi => ?_, fun z hz => ?_⟩, fun h r hr => ?_⟩
    · rw [hl] at hi
      obtain ⟨b, o, rfl, hb, hc⟩ := hx i hi
      refine ⟨b, o, rfl, hb, ?_⟩
      rw [hc, List.getD_eq_getElem?_getD, List.getD_eq_getElem?_getD, List.getElem?_take, if_pos hi]
    · exact bounds_i64 (h5 z (List.mem_of_mem_take hz))
    · rw [hl] at h
      obtain ⟨b, o, rfl, hb, _⟩ := hx 0 h
      cases hr; exact hb
/-- Crash(z), the number in a new row. -/
theorem crash_one {d : Nat} {S : DS} {K : Nat → Prop} {gs : List Nat} (z : Int) (w : World) (h : DK w d S K gs) (h0 : -9223372036854775808 ≤ z) (h1 : z ≤ 9223372036854775807) (hl : S.sure.length + S.steps.length ≤ 1000000) :
    Calls Try.prog 12 #[.pointer (some ⟨d, 0, none⟩), .slice (some ⟨w.heap.size, 0, none⟩) 1 1] (w.alloc (.cells #[.int .i64 z] 3)) fun e w' => e = .returned (.tuple #[]) ∧ DK w' d (crS S [z]) K gs ∧ Keeps K w w' := by
  refine (crash_any [z] (.slice (some ⟨w.heap.size, 0, none⟩) 1 1) _ (h.new1 (.cells #[.int .i64 z] 3)) (KSl_one w z h0 h1) (fun _ r hr => by cases hr; exact .inr rfl) hl).mono ?_
  rintro e w' ⟨e1, e2, e3⟩
  exact ⟨e1, e2.less (fun k hk => .inl hk), ((Keeps.refl K w).alloc h.Kb _).trans (e3.mono (fun k hk => .inl hk))⟩
theorem cut_z : cutF ([120, 121] ++ [122], ([120, 121] : List UInt8).length) (kpN [1] 0) = ([120, 121, 122], 3) := by decide
set_option maxRecDepth 100000 in
set_option maxHeartbeats 2000000 in
theorem awake14_any (w : World) : Calls Try.prog 14 #[] w fun e w' => e = .returned (.bool true) ∧ Below w.heap.size w w' := by
  go_enter Try.func14, Try.ntmps14
  go_wp2_with fail
  refine (new_good 9 w (by decide) (by decide)).mono ?_
  rintro e w1 ⟨d, rfl, hd1, hb1⟩
  have HK1 : Hid (Keeps (fun k => k < w.heap.size) w w1) := Keeps.of_below hb1 (fun k hk => hk)
  have HD1 : Hid (DK w1 d (newS 9) (fun k => k < w.heap.size) []) := hd1
  clear hd1 hb1
  go_wp2_with fail
  refine (append_any [97] [120, 121] w1 HD1.out (by simp) (by simp) (by simp [newS]) (by simp [newS])).mono ?_
  rw [newS_eq, (ap_first 0 (-1) (by decide) (by decide) (by decide)).1]
  rintro e w2 ⟨rfl, ⟨g, gs2, hd2, _, _⟩, hk2⟩
  rw [(ap_first g (-1) (by decide) (by decide) (by decide)).2] at hd2
  have HD2 : Hid _ := hd2
  have HK2 : Hid (Keeps (fun k => k < w.heap.size) w w2) := HK1.out.trans hk2
  clear hd2 hk2 HK1 HD1
  go_wp2_with fail
  refine (append_any [97] [49, 50, 51, 52, 53, 54, 55, 56] w2 HD2.out (by simp) (by simp) (by simp [one]) (by simp [one])).mono ?_
  rw [(ap_full 0 (by decide) (by decide) (by decide)).1]
  rintro e w3 ⟨rfl, ⟨g3, gs3, hd3, _, _⟩, hk3⟩
  rw [(ap_full g3 (by decide) (by decide) (by decide)).2] at hd3
  have HD3 : Hid _ := hd3
  have HK3 : Hid (Keeps (fun k => k < w.heap.size) w w3) := HK2.out.trans hk3
  clear hd3 hk3 HK2 HD2
  go_wp2_with fail
  refine (sync_any [97] w3 HD3.out (by simp)).mono ?_
  rw [(sy_one (by decide)).1, (sy_one (by decide)).2]
  rintro e w4 ⟨rfl, hd4, hk4⟩
  have HD4 : Hid _ := hd4
  have HK4 : Hid (Keeps (fun k => k < w.heap.size) w w4) := HK3.out.trans hk4
  clear hd4 hk4 HK3 HD3
  go_wp2_with fail
  refine (settle_any w4 HD4.out).mono ?_
  rw [(se_one (by decide)).1, (se_one (by decide)).2]
  rintro e w5 ⟨rfl, hd5, hk5⟩
  have HD5 : Hid _ := hd5
  have HK5 : Hid (Keeps (fun k => k < w.heap.size) w w5) := HK4.out.trans hk5
  clear hd5 hk5 HK4 HD4
  go_wp2_with fail
  refine (append_any [97] [122] w5 HD5.out (by simp) (by simp) (by simp [one]) (by simp [one])).mono ?_
  rw [(ap_more 0 (by decide) (by decide) (by decide)).1]
  rintro e w6 ⟨rfl, ⟨g6, gs6, hd6, _, _⟩, hk6⟩
  rw [(ap_more g6 (by decide) (by decide) (by decide)).2] at hd6
  have HD6 : Hid _ := hd6
  have HK6 : Hid (Keeps (fun k => k < w.heap.size) w w6) := HK5.out.trans hk6
  clear hd6 hk6 HK5 HD5
  go_wp2_with fail
  refine (crash_one 1 w6 HD6.out (by decide) (by decide) (by simp [one])).mono ?_
  rw [cr_one, cut_z]
  rintro e w7 ⟨rfl, hd7, hk7⟩
  have HD7 : Hid _ := hd7
  have HK7 : Hid (Keeps (fun k => k < w.heap.size) w w7) := HK6.out.trans hk7
  clear hd7 hk7 HK6 HD6
  go_wp2_with fail
  refine (read_any [97] w7 HD7.out (by simp)).mono ?_
  rw [rd_one.1, rd_one.2]
  rintro e w8 ⟨rfl, e8⟩
  have e9 := e8.symm
  subst e9
  have hq : ((mkT [120, 121, 122]).toList == [120, 121, 122]) = true := by rw [ByteArray.toList_eq, mkT_data]; decide
  go_wp2
  go_ret
  exact ⟨rfl, HK7.out.below⟩
end Go.Proofs.Ytgpfbahmkbdjmab
