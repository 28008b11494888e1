/- Contracts: a disk's Append. -/
import Derived.Test.YtmjfcneofpddiaaDoorQDskE
namespace Go.Proofs.YtmjfcneofpddiaaDoor
open Go.RowKit Go.Maps
set_option linter.unusedVariables false
set_option linter.unusedSimpArgs false

theorem Tryd.infoU8 : (Tryd.prog.info? 5).map (fun i => (i.zero, i.size, i.bytes)) = some (some (.int .u8 0), 1, 1) := by kernel_rfl
theorem FB.fcell {w : World} {K : Nat → Prop} {g : Nat} {f : List UInt8 × Nat} {v : Value} (h : FB w K g f v) : w.cell? ⟨g, 0, none⟩ = some v ∧ w.cell? ⟨g, 1, none⟩ = some (.int .i64 (f.2 : Int)) ∧ w.frozen? ⟨g, 0, none⟩ = false ∧ w.frozen? ⟨g, 1, none⟩ = false := by
  have hc := h.cell
  refine ⟨?_, ?_, ?_, ?_⟩ <;> simp [World.cell?, World.frozen?, hc]
/-- What an append to a file leaves. -/
theorem DKc.appended {w w1 : World} {d : Nat} {S : DS} {K : Nat → Prop} {bn bs : Nat} {sv : Value} {gs : List Nat} {fv : Nat → Value} (h : DKc w d S K bn bs sv gs fv) {g : Nat} (hg : g ∈ gs) (data : List UInt8) (v : Value)
    (hgr : w.grownBy w1 (fv g).ownBlock) (hr : w1.ownsRow 0 5 1 v ((S.fl g).1.length + (mkT data).size) (cb (S.fl g).1 ++ Lib.strCells (mkT data))) (hv : v.ownBlock = (fv g).ownBlock ∨ v.ownBlock = some w.heap.size) (hb : (S.fl g).1.length + data.length ≤ 1073741824) :
    DK (w1.setCell ⟨g, 0, none⟩ v) d { S with fl := updF S.fl g ((S.fl g).1 ++ data, (S.fl g).2) } K gs ∧ Keeps K w (w1.setCell ⟨g, 0, none⟩ v) := by
  have F := h.file g hg
  have hne : (fv g).ownBlock ≠ some g := fun e => by
    obtain ⟨_, cur, hcur⟩ := own_lt F.row e
    rw [F.cell] at hcur; injection hcur with hk; injection hk with _ e2; revert e2; decide
  have hc1 : w1.heap[g]? = some (.cells #[fv g, .int .i64 ((S.fl g).2 : Int)] 71 (0, 0)) := (hgr.block g F.lt (fun e => hne e.symm)).trans F.cell
  refine ⟨⟨bn, bs, sv, updV fv g v, h.setFile hg _ v (by simp [World.setCell]; exact hgr.size) (fun k hk h1 h2 => (setc_o h1).trans (hgr.block k hk (fun e => h2 e.symm))) ?_ ?_ (fun r hr => ?_) ?_ ?_⟩, ((Keeps.refl _ _).grown hgr h.Kb (fun k hk => F.kr k hk)).setCell F.kg _⟩
  · rw [setc hc1]; rfl
  · rw [mkT_size, cb_str, ← cb_app] at hr
    rw [List.length_append]
    refine own_kept hr (fun r hr' => setc_o (fun e => ?_))
    obtain ⟨_, cur, hcur⟩ := own_lt hr hr'
    rw [e, hc1] at hcur; injection hcur with hk; injection hk with _ e2; revert e2; decide
  · rcases hv with h1 | h1
    · exact .inl (by rw [← h1]; exact hr)
    · rw [h1] at hr; cases hr; exact .inr (Nat.le_refl _)
  · show (S.fl g).2 ≤ ((S.fl g).1 ++ data).length
    rw [List.length_append]; have := F.safe; omega
  · show ((S.fl g).1 ++ data).length ≤ 1073741824
    rw [List.length_append]; exact hb
theorem apE_dead {S : DS} {x data : List UInt8} (h : (dieS S).dead = true) : apE S x data = 10 := by unfold apE; rw [if_pos h]
theorem apE_name {S : DS} {x data : List UInt8} (h : ¬ (dieS S).dead = true) (h1 : nameD x = false) : apE S x data = 11 := by unfold apE; rw [if_neg h, if_pos h1]
theorem apE_room {S : DS} {x data : List UInt8} (h : ¬ (dieS S).dead = true) (h1 : ¬ nameD x = false) (h2 : S.room < (usd S.fl S.now : Int) + data.length) : apE S x data = 9 := by unfold apE; rw [if_neg h, if_neg h1, if_pos h2]
theorem apE_ok {S : DS} {x data : List UInt8} (h : ¬ (dieS S).dead = true) (h1 : ¬ nameD x = false) (h2 : ¬ S.room < (usd S.fl S.now : Int) + data.length) : apE S x data = 0 := by unfold apE; rw [if_neg h, if_neg h1, if_neg h2]
theorem apS_bad {S : DS} {x data : List UInt8} {g : Nat} (h : apE S x data ≠ 0) : apS S x data g = dieS S := by unfold apS; rw [if_neg h]
theorem apS_old {S : DS} {x data : List UInt8} {g h : Nat} (h0 : apE S x data = 0) (h1 : lk S.now x = some h) : apS S x data g = { dieS S with fl := updF S.fl h ((S.fl h).1 ++ data, (S.fl h).2) } := by
  unfold apS; rw [if_pos h0, h1]
theorem apS_new {S : DS} {x data : List UInt8} {g : Nat} (h0 : apE S x data = 0) (h1 : lk S.now x = none) : apS S x data g = { takeS (dieS S) ⟨0, g, x, []⟩ with fl := updF S.fl g (data, 0) } := by
  unfold apS; rw [if_pos h0, h1]
theorem updF_twice (fl : Nat → List UInt8 × Nat) (g : Nat) (a b : List UInt8 × Nat) : updF (updF fl g a) g b = updF fl g b := by
  funext k; unfold updF; split <;> rfl
theorem zeroFl (w : World) : (zeroValue 71).run Tryd.prog w = .ok (.agg #[.slice none 0 0, .int .i64 0]) w := by kernel_rfl
theorem zeroSt (w : World) : (zeroValue 74).run Tryd.prog w = .ok (.agg #[.int .i64 0, .pointer none, .string ⟨#[]⟩, .string ⟨#[]⟩]) w := by kernel_rfl
theorem take_x {d : Nat} {S : DS} {K : Nat → Prop} {gs : List Nat} (what : Int) (g : Nat) (nm to : List UInt8) (w : World) (h : DK w d S K gs) (hsg : g ∈ gs) (hn : nm.length ≤ 80) (ht : to.length ≤ 80) (hw0 : 0 ≤ what) (hw2 : what ≤ 2)
    (hl1 : S.now.length ≤ 1000000) (hl2 : S.steps.length ≤ 1000000) :
    Calls Tryd.prog 32 #[.pointer (some ⟨d, 0, none⟩), .agg #[.int .i64 what, .pointer (some ⟨g, 0, none⟩), .string (mkT nm), .string (mkT to)]] w fun e w' => e = .returned (.tuple #[]) ∧ DK w' d (takeS S ⟨what, g, nm, to⟩) K gs ∧ Keeps K w w' := by
  obtain ⟨bn, bs, sv, fv, h⟩ := h
  exact take_c ⟨what, g, nm, to⟩ w h hsg hn ht hw0 hw2 hl1 hl2
theorem after_take {w : World} {d : Nat} {S : DS} {K : Nat → Prop} {gs : List Nat} {g : Nat} {s : Stp} (h : DK w d (takeS { S with fl := updF S.fl g ([], 0) } s) K (g :: gs)) :
    ∃ bn bs sv fv, DKc w d (takeS { S with fl := updF S.fl g ([], 0) } s) K bn bs sv (g :: gs) fv ∧ FB w K g ([], 0) (fv g) := by
  obtain ⟨bn, bs, sv, fv, h⟩ := h
  refine ⟨bn, bs, sv, fv, h, ?_⟩
  have F := h.file g List.mem_cons_self
  rw [show (takeS { S with fl := updF S.fl g ([], 0) } s).fl g = ([], 0) from updF_same _ _ _] at F
  exact F
theorem FB.ne_row {w : World} {K : Nat → Prop} {g : Nat} {f : List UInt8 × Nat} {v : Value} (h : FB w K g f v) : some g ≠ v.ownBlock := fun e => by
  obtain ⟨_, cur, hcur⟩ := own_lt h.row e.symm
  rw [h.cell] at hcur; injection hcur with hk; injection hk with _ e2; revert e2; decide
theorem FB.behind {w w' : World} {K : Nat → Prop} {g : Nat} {f : List UInt8 × Nat} {v : Value} (h : FB w K g f v) (hgr : w.grownBy w' v.ownBlock) : w'.cell? ⟨g, 0, none⟩ = some v ∧ w'.frozen? ⟨g, 0, none⟩ = false := by
  have hq := (hgr.block g h.lt h.ne_row).trans h.cell
  exact ⟨(cell_of_row _ _ _ _ _ _ hq).trans rfl, frozen_of_row _ _ _ _ _ hq⟩
theorem usd_le {fl : Nat → List UInt8 × Nat} {F : Fo} (h : ∀ p ∈ F, (fl p.2).1.length ≤ 1073741824) : usd fl F ≤ F.length * 1073741824 := by
  unfold usd
  induction F with
  | nil => simp
  | cons a l ih =>
    rw [List.map_cons, List.sum_cons, List.length_cons, Nat.succ_mul]
    have h1 := h a List.mem_cons_self
    have h2 := ih (fun p hp => h p (List.mem_cons_of_mem _ hp))
    omega
set_option maxRecDepth 100000 in
set_option maxHeartbeats 4000000 in
theorem append_any {d : Nat} {S : DS} {K : Nat → Prop} {gs : List Nat} (x data : List UInt8) (w : World) (h : DK w d S K gs) (hx : x.length ≤ 9223372036854775807) (hda : data.length ≤ 1099511627776) (hl1 : S.now.length ≤ 1000000) (hl2 : S.steps.length ≤ 1000000) :
    Calls Tryd.prog 16 #[.pointer (some ⟨d, 0, none⟩), .string (mkT x), .string (mkT data)] w fun e w' => e = .returned (.int .i64 (apE S x data)) ∧ (∃ g gs', DK w' d (apS S x data g) K gs' ∧ g ∉ gs ∧ ∀ k ∈ gs, k ∈ gs') ∧ Keeps K w w' := by
  obtain ⟨q1, q2, q3, q4, q5⟩ := dieS_eq S
  have HSZ : Hid (∀ W : World, Keeps K w W → w.heap.size ∉ gs) := fun W _ hm => by obtain ⟨_, _, _, _, h⟩ := h; have := (h.file _ hm).lt; omega
  have HD0 := DK.dies w h
  have HDI : Hid (Calls _ _ _ _ _) := HD0
  have hmsz := mkT_size data
  have hms2 : ((mkT data).size : Int) = (data.length : Int) := by rw [hmsz]
  have HMS : Hid ((mkT data).size = data.length) := hmsz
  clear HD0 hmsz
  by_cases hdead : (dieS S).dead = true
  · have HE : Hid (apE S x data = 10) := apE_dead hdead
    have HS : Hid (∀ g, apS S x data g = dieS S) := fun g => apS_bad (by rw [HE.out]; decide)
    go_enter Tryd.func16, Tryd.ntmps16
    go_wp2_with (go_at_call 30; refine HDI.out.mono ?_; rw [hdead]; rintro e w1 ⟨rfl, hd1, hk1⟩)
    go_ret
    exact ⟨by rw [HE.out]; rfl, ⟨w.heap.size, gs, by rw [HS.out]; exact hd1, HSZ.out _ (Keeps.refl _ _), fun k hk => hk⟩, hk1⟩
  have hdf : (dieS S).dead = false := by simpa using hdead
  by_cases hnm : nameD x = false
  · have HE : Hid (apE S x data = 11) := apE_name hdead hnm
    have HS : Hid (∀ g, apS S x data g = dieS S) := fun g => apS_bad (by rw [HE.out]; decide)
    go_enter Tryd.func16, Tryd.ntmps16
    go_wp2_with (first | (go_at_call 30; refine HDI.out.mono ?_; rw [hdf]; rintro e w1 ⟨rfl, hd1, hk1⟩) | (go_at_call 31; refine (dname_x x _ hx).mono ?_; rw [hnm]; rintro e w2 ⟨rfl, rfl⟩))
    go_ret
    exact ⟨by rw [HE.out]; rfl, ⟨w.heap.size, gs, by rw [HS.out]; exact hd1, HSZ.out _ (Keeps.refl _ _), fun k hk => hk⟩, hk1⟩
  have hnt : nameD x = true := by simpa using hnm
  have hx80 := nameD_len hnt
  go_enter Tryd.func16, Tryd.ntmps16
  go_wp2_with (first | (go_at_call 30; refine HDI.out.mono ?_; rw [hdf]; rintro e w1 ⟨rfl, hd1, hk1⟩) | (go_at_call 31; refine (dname_x x _ hx).mono ?_; rw [hnt]; rintro e w2 ⟨rfl, rfl⟩))
  generalize hS1 : dieS S = S1 at *
  have HS1 : Hid (dieS S = S1) := hS1
  have HQ : Hid (S1.now = S.now ∧ S1.fl = S.fl ∧ S1.room = S.room ∧ S1.steps = S.steps) := ⟨q1, q4, q5, q3⟩
  have hlen1 : S1.now.length ≤ 1000000 := by rw [q1]; exact hl1
  have hlen2 : S1.steps.length ≤ 1000000 := by rw [q3]; exact hl2
  have HD1 : Hid (DK w2 d S1 K gs) := hd1
  have HK1 : Hid (Keeps K w w2) := hk1
  have HU : Hid (Calls Tryd.prog 24 #[.pointer (some ⟨d, 0, none⟩)] w2.drew fun e w' => e = .returned (.int .i64 (usd S1.fl S1.now : Int)) ∧ Below w2.drew.heap.size w2.drew w') := used_any w2.drew (hd1.below (Below.refl _ _).drew) hlen1
  obtain ⟨bn, bs, sv, fv, hc1⟩ := hd1
  obtain ⟨c0, c1, c2, c3, c4, c5⟩ := hc1.cells
  have hdlt : d < w2.heap.size := (Array.getElem?_eq_some_iff.1 hc1.cell).1
  have hub : usd S1.fl S1.now ≤ 1000000 * 1073741824 := Nat.le_trans (usd_le (fun p hp => (hc1.file _ (hc1.inN p hp).1).big)) (Nat.mul_le_mul_right _ hlen1)
  have hr0 := hc1.room0
  have hr1 := hc1.room1
  have HAL : Hid (¬ S1.dead = true ∧ ¬ nameD x = false) := ⟨hdead, hnm⟩
  clear hc1 c1 c2 c3 c4 c5 hk1 h HDI q1 q2 q3 q4 q5 hS1 hl1 hl2 hdf hdead hnm hnt
  generalize husd : usd S1.fl S1.now = us at *
  have HUS : Hid (usd S1.fl S1.now = us) := husd
  clear husd
  have hsum : (us : Int) + (data.length : Int) ≤ 9223372036854775807 := by omega
  have hwr : IntKind.i64.wrap ((us : Int) + (data.length : Int)) = (us : Int) + (data.length : Int) := by unfold IntKind.wrap; simp [IntKind.signed, IntKind.bits]; omega
  go_region_held3 (fun w' : World => w'.cell? ⟨d, 0, none⟩ = some (.int .i64 S1.room)) (first | exact c0 | exact (hb3.cell (p := ⟨d, 0, none⟩) hdlt).trans c0) ((go_at_call 24; refine HU.out.mono ?_; rintro e w3 ⟨rfl, hb3⟩))
  have HB3 : Hid (Below w2.heap.size w2 w3) := ⟨hb3.os, hb3.tape, hb3.output, hb3.size, hb3.block⟩
  have HK3 : Hid (Keeps K w w3) := HK1.out.trans (Keeps.of_below HB3.out HD1.out.Kb)
  have HD3 : Hid (DK w3 d S1 K gs) := HD1.out.below HB3.out
  clear hb3 HU
  by_cases hroom : S1.room < (us : Int) + (data.length : Int)
  · have HE : Hid (apE S x data = 9) := by
      obtain ⟨e1, e2, e3, e4⟩ := HQ.out
      refine apE_room (by rw [HS1.out]; exact HAL.out.1) HAL.out.2 ?_
      rw [← e1, ← e2, ← e3, HUS.out]; exact hroom
    have HS : Hid (∀ g, apS S x data g = dieS S) := fun g => apS_bad (by rw [HE.out]; decide)
    go_wp2
    go_ret
    exact ⟨by rw [HE.out]; rfl, ⟨w.heap.size, gs, by rw [HS.out, HS1.out]; exact HD3.out, HSZ.out _ (Keeps.refl _ _), fun k hk => hk⟩, HK3.out⟩
  have HE : Hid (apE S x data = 0) := by
    obtain ⟨e1, e2, e3, e4⟩ := HQ.out
    refine apE_ok (by rw [HS1.out]; exact HAL.out.1) HAL.out.2 ?_
    rw [← e1, ← e2, ← e3, HUS.out]; exact hroom
  obtain ⟨bn, bs, sv, fv, hc3⟩ := HD3.out
  obtain ⟨_, c1, _, _, _, _⟩ := hc3.cells
  have hlook := hc3.now.look x (by omega)
  have HC3 : Hid (DKc w3 d S1 K bn bs sv gs fv) := hc3
  obtain ⟨i0, hi, hz0, hz1, hz2⟩ := info_parts Tryd.infoU8
  clear hc3 c0
  cases hl : lk S1.now x with
  | some g =>
    rw [hl] at hlook
    simp only [gV, Option.isSome_some] at hlook
    have HL : Hid (lk S1.now x = some g) := hl
    have hgs : g ∈ gs := (HC3.out.inN _ (lk_some_mem hl)).1
    have F := HC3.out.file g hgs
    obtain ⟨f0, f1, f2, f3⟩ := F.fcell
    have hle : (S1.fl g).1.length ≤ us := by rw [← HUS.out]; exact usd_ge (p := (x, g)) (lk_some_mem hl)
    have HROW : Hid (w3.ownsRow 0 5 1 (fv g) (S1.fl g).1.length (cb (S1.fl g).1)) := F.row
    have HFB : Hid (FB w3 K g (S1.fl g) (fv g)) := F
    clear F hl f1 f3
    go_wp2_with (first
      | (at_builtin; go_must (refine wpList_append_str_at _ rfl _ _ 69 9 rfl 0 5 i0 Tryd.underlying69 Tryd.underlying9 hi hz0 hz1 hz2 (fv g) (S1.fl g).1.length (cb (S1.fl g).1) rfl HROW.out (mkT data) rfl (by rw [HMS.out]; unfold maxLen; omega) (by rw [HMS.out]; omega) (Nat.zero_le _) ?_); intro v4 w4 hown4 hgr4 hat4; obtain ⟨hq0, hqf⟩ := HFB.out.behind hgr4; obtain ⟨a4, c4, rfl, _⟩ := own_form hown4) | go_in)
    go_ret
    obtain ⟨r1, r2⟩ := HC3.out.appended hgs data _ hgr4 hown4 hat4 (by omega)
    refine ⟨by rw [HE.out]; rfl, ⟨w.heap.size, gs, ?_, HSZ.out _ (Keeps.refl _ _), fun k hk => hk⟩, HK3.out.trans r2⟩
    rw [apS_old HE.out (by rw [← HQ.out.1]; exact HL.out), HS1.out, ← HQ.out.2.1]
    exact r1
  | none =>
    rw [hl] at hlook
    simp only [gV, Option.isSome_none] at hlook
    have HL : Hid (lk S1.now x = none) := hl
    have hzf := zeroFl
    have hzs := zeroSt
    have hA := HC3.out.addFile
    have HKA : Hid (Keeps K w (w3.alloc (.cells #[.slice none 0 0, .int .i64 0] 71))) := HK3.out.alloc HC3.out.Kb _
    have HNG : Hid (w3.heap.size ∉ gs) := fun hm => by have := (HC3.out.file _ hm).lt; omega
    have HDA : Hid (DK (w3.alloc (.cells #[.slice none 0 0, .int .i64 0] 71)) d { S1 with fl := updF S1.fl w3.heap.size ([], 0) } K (w3.heap.size :: gs)) := ⟨_, _, _, _, hA⟩
    have HT : Hid (Calls Tryd.prog 32 #[.pointer (some ⟨d, 0, none⟩), .agg #[.int .i64 0, .pointer (some ⟨w3.heap.size, 0, none⟩), .string (mkT x), .string ⟨#[]⟩]] (w3.alloc (.cells #[.slice none 0 0, .int .i64 0] 71)) fun e w' => e = .returned (.tuple #[]) ∧ DK w' d (takeS { S1 with fl := updF S1.fl w3.heap.size ([], 0) } ⟨0, w3.heap.size, x, []⟩) K (w3.heap.size :: gs) ∧ Keeps K (w3.alloc (.cells #[.slice none 0 0, .int .i64 0] 71)) w') :=
      take_x 0 w3.heap.size x [] _ HDA.out List.mem_cons_self hx80 (by simp) (by omega) (by omega) hlen1 hlen2
    clear hA hl
    go_wp2_with (first
      | (go_at_call 32; refine HT.out.mono ?_; rintro e w4 ⟨rfl, hd4, hk4⟩; obtain ⟨bn4, bs4, sv4, fv4, hc4, F4⟩ := after_take hd4; obtain ⟨f0, f1, f2, f3⟩ := F4.fcell; have HC4 := hc4; have HK4 : Hid (Keeps K _ w4) := hk4; have HF4 : Hid (FB w4 K w3.heap.size ([], 0) (fv4 w3.heap.size)) := F4; clear hk4 F4 f1 f3 hd4)
      | (at_builtin; go_must (refine wpList_append_str_at _ rfl _ _ 69 9 rfl 0 5 i0 Tryd.underlying69 Tryd.underlying9 hi hz0 hz1 hz2 (fv4 w3.heap.size) 0 [] rfl HF4.out.row (mkT data) rfl (by rw [HMS.out]; unfold maxLen; omega) (by rw [HMS.out]; omega) (Nat.zero_le _) ?_); intro v5 w5 hown5 hgr5 hat5; obtain ⟨hq0, hqf⟩ := HF4.out.behind hgr5; obtain ⟨a5, c5, rfl, _⟩ := own_form hown5) | go_in)
    go_ret
    have e0 : (takeS { S1 with fl := updF S1.fl w3.heap.size ([], 0) } ⟨0, w3.heap.size, x, []⟩).fl w3.heap.size = ([], 0) := updF_same _ _ _
    obtain ⟨r1, r2⟩ := HC4.appended List.mem_cons_self data _ hgr5 (by rw [e0]; exact hown5) hat5 (by rw [e0]; show 0 + data.length ≤ _; omega)
    rw [Nat.zero_add] at r1 r2
    refine ⟨by rw [HE.out]; rfl, ⟨w3.heap.size, w3.heap.size :: gs, ?_, HNG.out, fun k hk => List.mem_cons_of_mem _ hk⟩, (HKA.out.trans HK4.out).trans r2⟩
    rw [apS_new HE.out (by rw [← HQ.out.1]; exact HL.out), HS1.out, ← HQ.out.2.1]
    rw [e0] at r1
    have e5 : updF (takeS { S1 with fl := updF S1.fl w3.heap.size ([], 0) } ⟨0, w3.heap.size, x, []⟩).fl w3.heap.size ([] ++ data, 0) = updF S1.fl w3.heap.size (data, 0) := updF_twice _ _ _ _
    rw [e5] at r1
    exact r1
end Go.Proofs.YtmjfcneofpddiaaDoor
