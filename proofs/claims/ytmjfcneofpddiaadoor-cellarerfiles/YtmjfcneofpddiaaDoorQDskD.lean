/- Contracts: a disk's take. -/
import Derived.Test.YtmjfcneofpddiaaDoorQDskC
import Derived.Deep.RegionHeld3
import Derived.Deep.AppendLies
import Derived.Deep.RegionLaw
namespace Go.Proofs.YtmjfcneofpddiaaDoor
open Go.RowKit Go.Maps
set_option linter.unusedVariables false
set_option linter.unusedSimpArgs false

theorem Tryd.infoSt : (Tryd.prog.info? 74).map (fun i => (i.zero, i.size, i.bytes)) = some (some (.agg #[.int .i64 0, .pointer none, .string ⟨#[]⟩, .string ⟨#[]⟩]), 4, 48) := by kernel_rfl
theorem stC_app (l : List Stp) (s : Stp) : stC (l ++ [s]) = stC l ++ [.int .i64 s.what, .pointer (some ⟨s.g, 0, none⟩), .string (mkT s.nm), .string (mkT s.to)] := by simp [stC]
theorem stC_len (l : List Stp) : (stC l).length = l.length * 4 := by
  induction l with
  | nil => rfl
  | cons a l ih => simp [stC] at *; omega
theorem DKc.isF {w : World} {d : Nat} {S : DS} {K : Nat → Prop} {bn bs : Nat} {sv : Value} {gs : List Nat} {fv : Nat → Value} (h : DKc w d S K bn bs sv gs fv) {g : Nat} (hg : g ∈ gs) : isF w g := ⟨_, (h.file g hg).cell⟩
/-- The step behind 'do': the folder now has turned. -/
theorem DKc.setNow {w w' : World} {d : Nat} {S : DS} {K : Nat → Prop} {bn bs : Nat} {sv : Value} {gs : List Nat} {fv : Nat → Value} (h : DKc w d S K bn bs sv gs fv) (F : Fo) (hF : FM w' bn F) (hg : w.grownBy w' (some bn)) (hin : ∀ p ∈ F, p.2 ∈ gs ∧ p.1.length ≤ 80) :
    DKc w' d { S with now := F } K bn bs sv gs fv := by
  have ho : ∀ k, k < w.heap.size → k ≠ bn → w'.heap[k]? = w.heap[k]? := fun k hk hne => hg.block k hk (fun e => hne (Option.some.inj e))
  obtain ⟨es, c, hmap⟩ := h.now.isMap
  have nd : ∀ {k : Nat} {cs : Array Value} {T : TypeId}, w.heap[k]? = some (.cells cs T (0, 0)) → k < w.heap.size ∧ k ≠ bn := fun hk => ⟨(Array.getElem?_eq_some_iff.1 hk).1, fun e => by rw [e, hmap] at hk; cases hk⟩
  refine ⟨fun k hk => Nat.lt_of_lt_of_le (h.Kb k hk) hg.size, h.kd, h.kn, h.ks, h.ne, h.kst, (ho d (nd h.cell).1 (nd h.cell).2).trans h.cell, hF, h.sure.kept (ho bs h.sure.lt h.ne.symm), own_kept h.steps (fun r hr => ?_), fun g hgs => ?_, h.apart, hin, h.inS, h.inT, h.room0, h.room1, h.left0, h.left1⟩
  · obtain ⟨_, cur, hc⟩ := own_lt h.steps hr; exact ho r (nd hc).1 (nd hc).2
  · have f := h.file g hgs
    refine f.kept (ho g (nd f.cell).1 (nd f.cell).2) (fun r hr => ?_)
    obtain ⟨_, cur, hc⟩ := own_lt f.row hr; exact ho r (nd hc).1 (nd hc).2
/-- The steps' row has turned, and the disk's cell that leads to it. -/
theorem DKc.setSteps {w w1 w' : World} {d : Nat} {S : DS} {K : Nat → Prop} {bn bs : Nat} {sv sv' : Value} {gs : List Nat} {fv : Nat → Value} (h : DKc w d S K bn bs sv gs fv) (l : List Stp) (hg : w.grownBy w1 sv.ownBlock) (hrow : w1.ownsRow 0 74 4 sv' l.length (stC l))
    (hsv : ∀ r, sv'.ownBlock = some r → sv.ownBlock = some r ∨ w.heap.size ≤ r) (hw' : w' = w1.setCell ⟨d, 3, none⟩ sv') (hin : ∀ s ∈ l, s.g ∈ gs ∧ s.nm.length ≤ 80 ∧ s.to.length ≤ 80 ∧ 0 ≤ s.what ∧ s.what ≤ 2) :
    DKc w' d { S with steps := l } K bn bs sv' gs fv := by
  obtain ⟨n1, n2, n3, n4⟩ := h.ne_d
  have hd : d < w.heap.size := (Array.getElem?_eq_some_iff.1 h.cell).1
  have hs : w'.heap.size = w1.heap.size := by rw [hw']; simp [World.setCell]
  have ho1 : ∀ k, k < w.heap.size → sv.ownBlock ≠ some k → w1.heap[k]? = w.heap[k]? := fun k hk hne => hg.block k hk (fun e => hne e.symm)
  have ho2 : ∀ k, k ≠ d → w'.heap[k]? = w1.heap[k]? := fun k hk => by rw [hw']; exact setc_o hk
  have ho : ∀ k, k < w.heap.size → sv.ownBlock ≠ some k → k ≠ d → w'.heap[k]? = w.heap[k]? := fun k hk h1 h2 => (ho2 k h2).trans (ho1 k hk h1)
  have nS : ∀ {k : Nat} {cs : Array Value} {T : TypeId}, w.heap[k]? = some (.cells cs T (0, 0)) → T ≠ 74 → sv.ownBlock ≠ some k := fun hk hT e => by
    obtain ⟨_, cur, hc⟩ := own_lt h.steps e
    rw [hc] at hk; injection hk with hk; injection hk with _ e2; exact hT e2.symm
  have nM : ∀ {k : Nat} {F : Fo}, FM w k F → sv.ownBlock ≠ some k := fun hk e => by
    obtain ⟨_, cur, hc⟩ := own_lt h.steps e
    obtain ⟨es, c, hm⟩ := hk.isMap
    rw [hc] at hm; cases hm
  refine ⟨fun k hk => by rw [hs]; exact Nat.lt_of_lt_of_le (h.Kb k hk) hg.size, h.kd, h.kn, h.ks, h.ne, fun r hr hk => ?_, ?_, h.now.kept (ho bn h.now.lt (nM h.now) n1), h.sure.kept (ho bs h.sure.lt (nM h.sure) n2), own_kept hrow (fun r hr => ho2 r (fun e => ?_)), fun g hgs => ?_, h.apart, h.inN, h.inS, hin, h.room0, h.room1, h.left0, h.left1⟩
  · rcases hsv r hr with h1 | h1
    · exact h.kst r h1 hk
    · have := h.Kb r hk; omega
  · have hc1 := (ho1 d hd (nS h.cell (by decide))).trans h.cell
    rw [hw', setc hc1]; rfl
  · obtain ⟨_, cur, hc⟩ := own_lt hrow hr
    have hc1 := (ho1 d hd (nS h.cell (by decide))).trans h.cell
    rw [e, hc1] at hc; injection hc with hc; injection hc with _ e2; revert e2; decide
  · have f := h.file g hgs
    refine f.kept (ho g f.lt (nS f.cell (by decide)) (n4 g hgs).1) (fun r hr => ?_)
    obtain ⟨hlt, cur, hc⟩ := own_lt f.row hr
    exact ho r hlt (nS hc (by decide)) ((n4 g hgs).2 r hr)
theorem do_x (F : Fo) (what : Int) (g : Nat) (nm to : List UInt8) (b : Nat) (w : World) (h : FM w b F) (hF : ∀ p ∈ F, isF w p.2) (hs : isF w g) (hlen : F.length ≤ 1000000) (hn : nm.length ≤ 80) (ht : to.length ≤ 80) (hw0 : 0 ≤ what) (hw2 : what ≤ 2) :
    Calls Tryd.prog 35 #[.map (some b), .agg #[.int .i64 what, .pointer (some ⟨g, 0, none⟩), .string (mkT nm), .string (mkT to)]] w fun e w' => e = .returned (.tuple #[]) ∧ FM w' b (doF F ⟨what, g, nm, to⟩) ∧ w.grownBy w' (some b) :=
  do_any F ⟨what, g, nm, to⟩ b w h hF hs hlen hn ht hw0 hw2
set_option maxRecDepth 100000 in
set_option maxHeartbeats 4000000 in
theorem take_c {d : Nat} {S : DS} {K : Nat → Prop} {bn bs : Nat} {sv : Value} {gs : List Nat} {fv : Nat → Value} (s : Stp) (w : World) (h : DKc w d S K bn bs sv gs fv) (hsg : s.g ∈ gs) (hn : s.nm.length ≤ 80) (ht : s.to.length ≤ 80) (hw0 : 0 ≤ s.what) (hw2 : s.what ≤ 2)
    (hl1 : S.now.length ≤ 1000000) (hl2 : S.steps.length ≤ 1000000) :
    Calls Tryd.prog 32 #[.pointer (some ⟨d, 0, none⟩), stV s] w fun e w' => e = .returned (.tuple #[]) ∧ DK w' d (takeS S s) K gs ∧ Keeps K w w' := by
  obtain ⟨i0, hi, hz0, hz1, hz2⟩ := info_parts Tryd.infoSt
  have HS0 : Hid (takeS S s = { { S with now := doF S.now s } with steps := S.steps ++ [s] }) := rfl
  obtain ⟨what, g, nm, to⟩ := s
  have hB : Below w.heap.size w (w.alloc (.cells #[.int .i64 what, .pointer (some ⟨g, 0, none⟩), .string (mkT nm), .string (mkT to)] 74)) := (Below.refl _ w).alloc (Nat.le_refl _) _
  have HK1 : Hid (Keeps K w (w.alloc (.cells #[.int .i64 what, .pointer (some ⟨g, 0, none⟩), .string (mkT nm), .string (mkT to)] 74))) := Keeps.of_below hB h.Kb
  have h1 := h.below hB
  have hbx : (w.alloc (.cells #[.int .i64 what, .pointer (some ⟨g, 0, none⟩), .string (mkT nm), .string (mkT to)] 74)).heap[w.heap.size]? = some (.cells #[.int .i64 what, .pointer (some ⟨g, 0, none⟩), .string (mkT nm), .string (mkT to)] 74 (0, 0)) := heap_alloc_new _ _
  have hlt0 := hB.size
  have hdx : d < w.heap.size := (Array.getElem?_eq_some_iff.1 h.cell).1
  have hsvx : ∀ r, sv.ownBlock = some r → r < w.heap.size := fun r hr => (own_lt h.steps hr).1
  have hbnx : bn < w.heap.size := h.now.lt
  simp only [stV]
  clear h hB
  generalize hw1 : w.alloc (.cells #[.int .i64 what, .pointer (some ⟨g, 0, none⟩), .string (mkT nm), .string (mkT to)] 74) = w1 at *
  generalize hbxn : w.heap.size = bx at *
  have hbx1 : bx < w1.heap.size := by rw [← hw1]; simp [← hbxn]
  go_enter Tryd.func32, Tryd.ntmps32
  go_wp2
  have HW1 : Hid (w.heap.size = bx) := hbxn
  clear hw1 hbxn
  have HH1 : Hid (DKc w1 d S K bn bs sv gs fv) := h1
  have HBX : Hid (w1.heap[bx]? = some (.cells #[.int .i64 what, .pointer (some ⟨g, 0, none⟩), .string (mkT nm), .string (mkT to)] 74 (0, 0))) := hbx
  have HFM : Hid (FM w1.drew bn S.now) := h1.now.kept rfl
  have HIF : Hid (∀ p ∈ S.now, isF w1.drew p.2) := fun p hp => HH1.out.isF (HH1.out.inN p hp).1
  have HIG : Hid (isF w1.drew g) := HH1.out.isF hsg
  obtain ⟨c0, c1, c2, c3, c4, c5⟩ := h1.cells
  have b0 : w1.cell? ⟨bx, 0, none⟩ = some (.int .i64 what) := by simp [World.cell?, hbx]
  have b1 : w1.cell? ⟨bx, 1, none⟩ = some (.pointer (some ⟨g, 0, none⟩)) := by simp [World.cell?, hbx]
  have b2 : w1.cell? ⟨bx, 2, none⟩ = some (.string (mkT nm)) := by simp [World.cell?, hbx]
  have b3 : w1.cell? ⟨bx, 3, none⟩ = some (.string (mkT to)) := by simp [World.cell?, hbx]
  have HKP : Hid (∀ w2 : World, w1.drew.grownBy w2 (some bn) → w2.cell? ⟨d, 1, none⟩ = some (.map (some bn)) ∧ w2.cell? ⟨bx, 0, none⟩ = some (.int .i64 what) ∧ w2.cell? ⟨bx, 1, none⟩ = some (.pointer (some ⟨g, 0, none⟩)) ∧ w2.cell? ⟨bx, 2, none⟩ = some (.string (mkT nm)) ∧ w2.cell? ⟨bx, 3, none⟩ = some (.string (mkT to))) := fun w2 hg => by
    have e1 : ∀ o, w2.cell? ⟨d, o, none⟩ = w1.cell? ⟨d, o, none⟩ := fun o => hg.cell_far ⟨d, o, none⟩ (by show d < w1.heap.size; omega) (fun e => HH1.out.ne_d.1 (Option.some.inj e).symm)
    have e2 : ∀ o, w2.cell? ⟨bx, o, none⟩ = w1.cell? ⟨bx, o, none⟩ := fun o => hg.cell_far ⟨bx, o, none⟩ (by show bx < w1.heap.size; omega) (fun e => by have := Option.some.inj e; simp at this; omega)
    exact ⟨(e1 1).trans c1, (e2 0).trans b0, (e2 1).trans b1, (e2 2).trans b2, (e2 3).trans b3⟩
  clear h1 hbx c0 c2 c3 c4 c5 hi hz0 hz1 hz2
  have HT : Hid (Calls Tryd.prog 35 #[.map (some bn), .agg #[.int .i64 what, .pointer (some ⟨g, 0, none⟩), .string (mkT nm), .string (mkT to)]] w1.drew fun e w' => e = .returned (.tuple #[]) ∧ FM w' bn (doF S.now ⟨what, g, nm, to⟩) ∧ w1.drew.grownBy w' (some bn)) := do_x S.now what g nm to bn w1.drew HFM.out HIF.out HIG.out hl1 hn ht hw0 hw2
  go_region_held3 (fun w' : World => w'.cell? ⟨d, 1, none⟩ = some (.map (some bn)) ∧ w'.cell? ⟨bx, 0, none⟩ = some (.int .i64 what) ∧ w'.cell? ⟨bx, 1, none⟩ = some (.pointer (some ⟨g, 0, none⟩)) ∧ w'.cell? ⟨bx, 2, none⟩ = some (.string (mkT nm)) ∧ w'.cell? ⟨bx, 3, none⟩ = some (.string (mkT to))) (first | exact ⟨c1, b0, b1, b2, b3⟩ | exact HKP.out _ hg2) ((go_at_call 35; refine HT.out.mono ?_; rintro e w2 ⟨rfl, hf2, hg2⟩))
  have hg2' : w1.grownBy w2 (some bn) := ⟨hg2.os, hg2.tape, hg2.output, hg2.size, hg2.block⟩
  have HG2 : Hid (w1.grownBy w2 (some bn)) := hg2'
  have HB2 := HKP.out _ hg2
  obtain ⟨_, b0', b1', b2', b3'⟩ := HB2
  have hD2 : DKc w2 d { S with now := doF S.now ⟨what, g, nm, to⟩ } K bn bs sv gs fv := HH1.out.setNow _ hf2 hg2' (fun p hp => by
    rcases doF_mem hp with h | ⟨h1, h2⟩
    · exact HH1.out.inN p h
    · refine ⟨by rw [h1]; exact hsg, ?_⟩
      rcases h2 with h2 | h2 <;> rw [h2] <;> assumption)
  have HD2 : Hid (DKc w2 d { S with now := doF S.now ⟨what, g, nm, to⟩ } K bn bs sv gs fv) := hD2
  have HK2 : Hid (Keeps K w w2) := HK1.out.grown hg2' HH1.out.Kb (fun k hk => by cases hk; exact HH1.out.kn)
  obtain ⟨d0, d1, d2, d3, d4, d5⟩ := hD2.cells
  have f3 : w2.frozen? ⟨d, 3, none⟩ = false := by have := hD2.cell; simp [World.frozen?, this]
  obtain ⟨i0, hi, hz0, hz1, hz2⟩ := info_parts Tryd.infoSt
  have hsz2 := hg2'.size
  have hdlt : d < w2.heap.size := by omega
  have hbxlt : bx < w2.heap.size := by omega
  obtain ⟨sa, sc, rfl, hsc⟩ := own_form hD2.steps
  clear hg2 hg2' hf2 d0 d1 d2 d4 d5 c1 b0 b1 b2 b3 HKP HT HFM HIF HIG hD2
  have b0 := b0'; have b1 := b1'; have b2 := b2'; have b3 := b3'
  clear b0' b1' b2' b3'
  simp only at d3
  have HROW : Hid (w2.ownsRow 0 74 4 (.slice sa S.steps.length sc) S.steps.length (stC S.steps)) := HD2.out.steps
  have HDC : Hid (w2.heap[d]? = some (.cells #[.int .i64 S.room, .map (some bn), .map (some bs), .slice sa S.steps.length sc, .int .i64 S.left, .bool S.dead] 65 (0, 0))) := HD2.out.cell
  have HBC : Hid (w2.heap[bx]? = some (.cells #[.int .i64 what, .pointer (some ⟨g, 0, none⟩), .string (mkT nm), .string (mkT to)] 74 (0, 0))) := (HG2.out.block bx hbx1 (fun e => by have := Option.some.inj e; omega)).trans HBX.out
  have HAD : Hid (∀ o k, k < w2.heap.size → (w2.drew.alloc o).heap[k]? = w2.heap[k]?) := fun o k hk => heap_alloc_old w2.drew o (show k < w2.drew.heap.size from hk)
  have HN1 : Hid (some d ≠ (Value.slice sa S.steps.length sc).ownBlock) := fun e => HD2.out.ne_d.2.2.1 d e.symm rfl
  have HN2 : Hid (some bx ≠ (Value.slice sa S.steps.length sc).ownBlock) := fun e => by have := hsvx bx e.symm; omega
  have HGA : Hid (∀ o, w2.grownBy (w2.drew.alloc o) (Value.slice sa S.steps.length sc).ownBlock) := fun o => ⟨rfl, rfl, rfl, by simp, fun k hk _ => HAD.out o k hk⟩
  have HIT : Hid (∀ s ∈ S.steps ++ [⟨what, g, nm, to⟩], s.g ∈ gs ∧ s.nm.length ≤ 80 ∧ s.to.length ≤ 80 ∧ 0 ≤ s.what ∧ s.what ≤ 2) := fun s hs => by
    rcases List.mem_append.1 hs with h | h
    · exact HD2.out.inT s h
    · rw [List.mem_singleton] at h; subst h; exact ⟨hsg, hn, ht, hw0, hw2⟩
  go_wp2
  go_region_law ((refine step_append_lies _ (by rfl) _ _ 63 (by rfl) 0 74 i0 _ 4 48 Tryd.underlying63 hi hz0 hz1 hz2 rfl (by decide) (.slice sa S.steps.length sc) S.steps.length (stC S.steps) (by rfl) (HROW.out.drew.alloc _) ⟨w2.heap.size, 0, none⟩ 1 1 [.int .i64 what, .pointer (some ⟨g, 0, none⟩), .string (mkT nm), .string (mkT to)] (by rfl) rfl (World.news_of_block (heap_alloc_new w2.drew _)) (by intro u hu; simp at hu; rcases hu with rfl | rfl | rfl | rfl <;> rfl) (by decide) (by unfold maxLen; omega) (by omega) (Nat.zero_le _) (w2.heap.size + 1) (by simp) ?_; intro g4 cap4 w4 hown4 hgrow4 hat4 hlt4; have q2 := (hgrow4.block d (by simp; omega) HN1.out).trans ((HAD.out _ d hdlt).trans HDC.out); have q3 : w4.cell? ⟨d, 3, none⟩ = some (.slice sa S.steps.length sc) := (cell_of_row _ _ _ _ _ _ q2).trans rfl; have q4 : w4.frozen? ⟨d, 3, none⟩ = false := frozen_of_row _ _ _ _ _ q2))
  all_goals
    have hfin := HD2.out.setSteps (S.steps ++ [⟨what, g, nm, to⟩]) ((HGA.out _).trans hgrow4) (by rw [stC_app, List.length_append]; exact hown4) (fun r hr => by
      have e : g4 = r := by simpa [Value.ownBlock] using hr
      rcases hat4 with h | h
      · exact .inl (by rw [← e]; exact h)
      · exact .inr (by omega)) rfl HIT.out
    have hkk : Keeps K w (w4.setCell ⟨d, 3, none⟩ (.slice (some ⟨g4, 0, none⟩) (S.steps.length + 1) cap4)) := (HK2.out.grown ((HGA.out _).trans hgrow4) HD2.out.Kb (fun k hk => HD2.out.kst k hk)).setCell HD2.out.kd _
    have HFIN : Hid (DKc _ d _ K bn bs _ gs fv) := hfin
    have HKK : Hid (Keeps K w _) := hkk
    clear hfin hkk
    go_wp2
    go_end0
    rw [HS0.out]
    exact ⟨rfl, ⟨_, _, _, _, HFIN.out⟩, HKK.out⟩
end Go.Proofs.YtmjfcneofpddiaaDoor
