/- Contract of the law's own 'awake' of layer 3: it returns true. -/
import Derived.Test.YtbkaeibjhnndfaaSrcT
import Derived.Test.YtbkaeibjhnndfaaSnkT
import Derived.Test.YtbkaeibjhnndfaaSnkA
namespace Go.Proofs.Ytbkaeibjhnndfaa
open Go.RowKit
set_option linter.unusedVariables false

/-- The text d2 01. -/
def sd2 : ByteArray := ⟨#[210, 1]⟩
theorem aw_take {n : Int} {p m v : Nat} (hm : near n 32 = m) (hv : takeN (fun i => sbit sd2.data.toList (p + i)) m = v) (hn : -9223372036854775808 ≤ n ∧ n ≤ 9223372036854775807) (hp : p ≤ 100) (g : Nat) (w : World) (hS : SrcAt w g sd2 p) :
    Calls Try.prog 13 #[.pointer (some ⟨g, 0, none⟩), .int .i64 n] w fun e w' => e = .returned (.int .u32 (v : Int)) ∧ SrcAt w' g sd2 (p + m) ∧ w.grownBy w' (some g) := by
  have h := take_any g sd2 p n w hS (by decide) (by omega) hn
  rw [hm, hv] at h
  exact h
theorem aw_turned {n : Int} {p m v : Nat} (hm : near n 32 = m) (hv : turnN (fun i => sbit sd2.data.toList (p + i)) m = v) (hn : -9223372036854775808 ≤ n ∧ n ≤ 9223372036854775807) (hp : p ≤ 100) (g : Nat) (w : World) (hS : SrcAt w g sd2 p) :
    Calls Try.prog 14 #[.pointer (some ⟨g, 0, none⟩), .int .i64 n] w fun e w' => e = .returned (.int .u32 (v : Int)) ∧ SrcAt w' g sd2 (p + m) ∧ w.grownBy w' (some g) := by
  have h := turned_any g sd2 p n w hS (by decide) (by omega) hn
  rw [hm, hv] at h
  exact h
theorem aw_short (g p : Nat) (b : Bool) (w : World) (hS : SrcAt w g sd2 p) (hb : decide (8 * sd2.size < p) = b) :
    Calls Try.prog 19 #[.pointer (some ⟨g, 0, none⟩)] w fun e w' => e = .returned (.bool b) ∧ SrcAt w' g sd2 p ∧ w.grownBy w' (some g) := by
  subst hb
  refine (short_any g sd2 p w hS (by decide)).mono ?_
  rintro e w' ⟨rfl, n, rfl⟩
  exact ⟨rfl, hS.drewN n, gdrewN (grefl w _) n⟩
theorem SinkAt.other {w w' : World} {g gs : Nat} {L : List Bool} (h : SinkAt w g L) (hg : w.grownBy w' (some gs)) (hne : gs ≠ g) (hc : ∀ p, Chain w g L (L.length / 512) p → Chain w' g L (L.length / 512) p) : SinkAt w' g L := by
  have hl := h.lt
  obtain ⟨p, h1, h2⟩ := h
  exact ⟨p, (hg.block g hl (fun e => hne (by cases e; rfl))).trans h1, hc p h2⟩
/-- A Sink of few bits stays while another thing is turned. -/
theorem SinkAt.few {w w' : World} {g gs : Nat} {L : List Bool} (h : SinkAt w g L) (hg : w.grownBy w' (some gs)) (hne : gs ≠ g) (hl : L.length < 512) : SinkAt w' g L :=
  h.other hg hne fun p hp => by rw [show L.length / 512 = 0 by omega] at hp ⊢; exact hp
theorem aw_pack : packS (evenL ([] ++ lowB 5 3 ++ highB 1 2) ++ rowOf [97]) = ⟨#[21, 97]⟩ := by
  unfold packS
  congr 2
theorem aw_len : (evenL ([] ++ lowB 5 3 ++ highB 1 2) ++ rowOf [97]).length = 16 := by decide +kernel

theorem aw_put (g : Nat) (w : World) (hS : SinkAt w g []) : Calls Try.prog 20 #[.pointer (some ⟨g, 0, none⟩), .int .u32 5, .int .i64 3] w fun e w' => e = .returned (.tuple #[]) ∧ SinkAt w' g ([] ++ lowB 5 3) ∧ w.grownBy w' (some g) :=
  wput_any g [] 5 3 w hS (by decide) (by decide) (by decide)
theorem aw_turn (g : Nat) (w : World) (hS : SinkAt w g ([] ++ lowB 5 3)) : Calls Try.prog 22 #[.pointer (some ⟨g, 0, none⟩), .int .u32 1, .int .i64 2] w fun e w' => e = .returned (.tuple #[]) ∧ SinkAt w' g ([] ++ lowB 5 3 ++ highB 1 2) ∧ w.grownBy w' (some g) :=
  wturn_any g ([] ++ lowB 5 3) 1 2 w hS (by decide) (by decide) (by decide)
theorem aw_text (g : Nat) (w : World) (hS : SinkAt w g ([] ++ lowB 5 3 ++ highB 1 2)) : Calls Try.prog 25 #[.pointer (some ⟨g, 0, none⟩), .string ⟨#[97]⟩] w fun e w' => e = .returned (.tuple #[]) ∧ SinkAt w' g (evenL ([] ++ lowB 5 3 ++ highB 1 2) ++ rowOf [97]) ∧ w.grownBy w' (some g) :=
  wtext_any g ([] ++ lowB 5 3 ++ highB 1 2) ⟨#[97]⟩ w hS (by decide) (by decide)
theorem aw_all (g : Nat) (w : World) (hS : SinkAt w g (evenL ([] ++ lowB 5 3 ++ highB 1 2) ++ rowOf [97])) : Calls Try.prog 27 #[.pointer (some ⟨g, 0, none⟩)] w fun e w' => e = .returned (.string ⟨#[21, 97]⟩) ∧ Below w.heap.size w w' := by
  have h := all_any g _ w hS (by rw [aw_len]; decide)
  rw [aw_pack] at h
  exact h
set_option maxRecDepth 100000 in
set_option maxHeartbeats 1000000 in
theorem awake3_any (w : World) : Calls Try.prog 11 #[] w fun e w' => e = .returned (.bool true) ∧ Below w.heap.size w w' := by
  have hz := (zero_of_info Try.zeroSnk).1
  go_enter Try.func11, Try.ntmps11
  go_wp2_with fail
  refine (srcOf_any sd2 _).mono ?_
  rintro e w1 ⟨gx, rfl, hX, hgx, hb1⟩
  go_wp2_with fail
  have hW := sink_zero w1
  have hX2 : SrcAt (w1.alloc (.cells snk0 41)) gx sd2 0 := hX.below ((Below.refl _ w1).alloc (Nat.le_refl _) _)
  have hb2 : Below w.heap.size w (w1.alloc (.cells snk0 41)) := hb1.alloc hb1.size _
  have hne : gx ≠ w1.heap.size := Nat.ne_of_lt hX.lt
  generalize w1.alloc (.cells snk0 41) = w2 at *
  have hlt0 : w.heap.size ≤ w1.heap.size := hb1.size
  generalize w1.heap.size = gw at *
  clear hX hb1 hz
  refine (aw_put gw w2 hW).mono ?_
  rintro e w3 ⟨rfl, hW3, hG3⟩
  go_wp2_with fail
  refine (aw_turn gw w3 hW3).mono ?_
  rintro e w4 ⟨rfl, hW4, hG4⟩
  go_wp2_with fail
  refine (aw_text gw w4 hW4).mono ?_
  rintro e w5 ⟨rfl, hW5, hG5⟩
  have hX5 : SrcAt w5 gx sd2 0 := hX2.kept (gtrans (gtrans hG3 hG4) hG5) (fun e => hne (by cases e; rfl))
  have hb5 : Below w.heap.size w w5 := hb2.grown (gtrans (gtrans hG3 hG4) hG5) hb2.size (fun k hk => by cases hk; exact hlt0)
  clear hW hW3 hW4 hG3 hG4 hG5 hb2 hX2
  go_wp2_with fail
  refine (aw_take (n := 4) (p := 0) (m := 4) (v := 2) rfl (by decide +kernel) (by decide) (by decide) gx _ hX5).mono ?_
  rintro e w6 ⟨rfl, hX6, hG6⟩
  go_wp2_with fail
  refine (aw_turned (n := 4) (p := 0 + 4) (m := 4) (v := 11) rfl (by decide +kernel) (by decide) (by decide) gx _ hX6).mono ?_
  rintro e w7 ⟨rfl, hX7, hG7⟩
  go_wp2_with fail
  refine (aw_short gx (0 + 4 + 4) false _ hX7 (by decide)).mono ?_
  rintro e w8 ⟨rfl, hX8, hG8⟩
  go_wp2_with fail
  refine (aw_take (n := 8) (p := 0 + 4 + 4) (m := 8) (v := 1) rfl (by decide +kernel) (by decide) (by decide) gx _ hX8).mono ?_
  rintro e w9 ⟨rfl, hX9, hG9⟩
  go_wp2_with fail
  refine (aw_take (n := 9) (p := 0 + 4 + 4 + 8) (m := 9) (v := 0) rfl (by decide +kernel) (by decide) (by decide) gx _ hX9).mono ?_
  rintro e w10 ⟨rfl, hX10, hG10⟩
  go_wp2_with fail
  refine (aw_short gx (0 + 4 + 4 + 8 + 9) true _ hX10 (by decide)).mono ?_
  rintro e w11 ⟨rfl, hX11, hG11⟩
  have hG := gtrans (gtrans (gtrans (gtrans (gtrans hG6 hG7) hG8) hG9) hG10) hG11
  have hW11 := hW5.few hG hne (by rw [aw_len]; decide)
  have hb11 : Below w.heap.size w w11 := hb5.grown hG hb5.size (fun k hk => by cases hk; exact hgx)
  clear hG hG6 hG7 hG8 hG9 hG10 hG11 hX5 hX6 hX7 hX8 hX9 hX10 hX11 hW5 hb5
  go_wp2_with fail
  refine (aw_all gw _ hW11).mono ?_
  rintro e w12 ⟨rfl, hb12⟩
  go_wp2
  go_ret
  exact ⟨rfl, hb11.trans (hb12.mono hb11.size)⟩
end Go.Proofs.Ytbkaeibjhnndfaa
