/- A disk in the midst of a crash (its folder that is safe has become the one now); settle, Settle, List. -/
import Derived.Test.YtmjfcneofpddiaaDoorQDskH
namespace Go.Proofs.YtmjfcneofpddiaaDoor
open Go.RowKit Go.Maps
set_option linter.unusedVariables false
set_option linter.unusedSimpArgs false

structure DKm (w : World) (d : Nat) (K : Nat → Prop) (room : Int) (bn : Nat) (x2 sv : Value) (left : Int) (dead : Bool) (F : Fo) (l : List Stp) (fl : Nat → List UInt8 × Nat) (gs : List Nat) (fv : Nat → Value) : Prop where
  Kb : ∀ k, K k → k < w.heap.size
  kd : ¬ K d
  kn : ¬ K bn
  kst : ∀ r, sv.ownBlock = some r → ¬ K r
  cell : w.heap[d]? = some (.cells #[.int .i64 room, .map (some bn), x2, sv, .int .i64 left, .bool dead] 65 (0, 0))
  now : FM w bn F
  steps : w.ownsRow 0 74 4 sv l.length (stC l)
  file : ∀ g ∈ gs, FB w K g (fl g) (fv g)
  apart : ∀ g ∈ gs, ∀ h ∈ gs, g ≠ h → ∀ r, (fv g).ownBlock = some r → (fv h).ownBlock ≠ some r
  inN : ∀ p ∈ F, p.2 ∈ gs ∧ p.1.length ≤ 80
  inT : ∀ s ∈ l, s.g ∈ gs ∧ s.nm.length ≤ 80 ∧ s.to.length ≤ 80 ∧ 0 ≤ s.what ∧ s.what ≤ 2
section
variable {w w' : World} {d : Nat} {K : Nat → Prop} {room : Int} {bn : Nat} {x2 sv : Value} {left : Int} {dead : Bool} {F : Fo} {l : List Stp} {fl : Nat → List UInt8 × Nat} {gs : List Nat} {fv : Nat → Value}
theorem DKm.below (h : DKm w d K room bn x2 sv left dead F l fl gs fv) (hb : Below w.heap.size w w') : DKm w' d K room bn x2 sv left dead F l fl gs fv := by
  have hd : d < w.heap.size := (Array.getElem?_eq_some_iff.1 h.cell).1
  exact ⟨fun k hk => Nat.lt_of_lt_of_le (h.Kb k hk) hb.size, h.kd, h.kn, h.kst, (hb.block d hd).trans h.cell, h.now.kept (hb.block _ h.now.lt), own_kept h.steps (fun r hr => hb.block r (own_lt h.steps hr).1),
    fun g hg => (h.file g hg).kept (hb.block g (h.file g hg).lt) (fun r hr => hb.block r (own_lt (h.file g hg).row hr).1), h.apart, h.inN, h.inT⟩
theorem DKm.ne_n (h : DKm w d K room bn x2 sv left dead F l fl gs fv) : d ≠ bn ∧ (∀ r, sv.ownBlock = some r → r ≠ bn) ∧ ∀ g ∈ gs, g ≠ bn ∧ ∀ r, (fv g).ownBlock = some r → r ≠ bn := by
  obtain ⟨es, c, hm⟩ := h.now.isMap
  refine ⟨fun e => ?_, fun r hr e => ?_, fun g hg => ⟨fun e => ?_, fun r hr e => ?_⟩⟩
  · have := h.cell; rw [e, hm] at this; cases this
  · obtain ⟨_, cur, h1⟩ := own_lt h.steps hr; rw [e, hm] at h1; cases h1
  · have h1 := (h.file g hg).cell; rw [e, hm] at h1; cases h1
  · obtain ⟨_, cur, h1⟩ := own_lt (h.file g hg).row hr; rw [e, hm] at h1; cases h1
theorem DKm.ne_d (h : DKm w d K room bn x2 sv left dead F l fl gs fv) : (∀ r, sv.ownBlock = some r → r ≠ d) ∧ ∀ g ∈ gs, g ≠ d ∧ ∀ r, (fv g).ownBlock = some r → r ≠ d := by
  have hc := h.cell
  refine ⟨fun r hr e => ?_, fun g hg => ⟨fun e => ?_, fun r hr e => ?_⟩⟩
  · obtain ⟨_, cur, h1⟩ := own_lt h.steps hr; rw [e, hc] at h1; cases h1
  · have h1 := (h.file g hg).cell; rw [e, hc] at h1; simp at h1
  · obtain ⟨_, cur, h1⟩ := own_lt (h.file g hg).row hr; rw [e, hc] at h1; cases h1
theorem DKm.setNow (h : DKm w d K room bn x2 sv left dead F l fl gs fv) {G : Fo} (hF : FM w' bn G) (hg : w.grownBy w' (some bn)) (hin : ∀ p ∈ G, p.2 ∈ gs ∧ p.1.length ≤ 80) : DKm w' d K room bn x2 sv left dead G l fl gs fv := by
  have ho : ∀ k, k < w.heap.size → k ≠ bn → w'.heap[k]? = w.heap[k]? := fun k hk hne => hg.block k hk (fun e => hne (Option.some.inj e))
  have hd : d < w.heap.size := (Array.getElem?_eq_some_iff.1 h.cell).1
  obtain ⟨n1, n2, n3⟩ := h.ne_n
  exact ⟨fun k hk => Nat.lt_of_lt_of_le (h.Kb k hk) hg.size, h.kd, h.kn, h.kst, (ho d hd n1).trans h.cell, hF, own_kept h.steps (fun r hr => ho r (own_lt h.steps hr).1 (n2 r hr)),
    fun g hg => (h.file g hg).kept (ho g (h.file g hg).lt (n3 g hg).1) (fun r hr => ho r (own_lt (h.file g hg).row hr).1 ((n3 g hg).2 r hr)), h.apart, hin, h.inT⟩
theorem DKm.setFile (h : DKm w d K room bn x2 sv left dead F l fl gs fv) {g : Nat} (hg : g ∈ gs) (f : List UInt8 × Nat) (v : Value) (hs : w.heap.size ≤ w'.heap.size)
    (ho : ∀ k, k < w.heap.size → k ≠ g → (fv g).ownBlock ≠ some k → w'.heap[k]? = w.heap[k]?) (hc : w'.heap[g]? = some (.cells #[v, .int .i64 (f.2 : Int)] 71 (0, 0))) (hr : w'.ownsRow 0 5 1 v f.1.length (cb f.1))
    (hv : ∀ r, v.ownBlock = some r → (fv g).ownBlock = some r ∨ w.heap.size ≤ r) (h1 : f.2 ≤ f.1.length) (h2 : f.1.length ≤ 1073741824) : DKm w' d K room bn x2 sv left dead F l (updF fl g f) gs (updV fv g v) := by
  have Fg := h.file g hg
  have nT : ∀ {k : Nat} {cs : Array Value} {T : TypeId}, w.heap[k]? = some (.cells cs T (0, 0)) → T ≠ 71 → k ≠ g := fun hk hT e => by
    rw [e, Fg.cell] at hk; injection hk with hk; injection hk with _ e2; exact hT e2.symm
  have nR : ∀ {k : Nat} {cs : Array Value} {T : TypeId}, w.heap[k]? = some (.cells cs T (0, 0)) → T ≠ 5 → (fv g).ownBlock ≠ some k := fun hk hT e => by
    obtain ⟨_, cur, hcur⟩ := own_lt Fg.row e
    rw [hcur] at hk; injection hk with hk; injection hk with _ e2; exact hT e2.symm
  have nM : ∀ {k : Nat} {G : Fo}, FM w k G → k ≠ g ∧ (fv g).ownBlock ≠ some k := fun hk => by
    obtain ⟨es, c, hm⟩ := hk.isMap
    refine ⟨fun e => ?_, fun e => ?_⟩
    · rw [e, Fg.cell] at hm; cases hm
    · obtain ⟨_, cur, hcur⟩ := own_lt Fg.row e; rw [hcur] at hm; cases hm
  have hd : d < w.heap.size := (Array.getElem?_eq_some_iff.1 h.cell).1
  refine ⟨fun k hk => Nat.lt_of_lt_of_le (h.Kb k hk) hs, h.kd, h.kn, h.kst, (ho d hd (nT h.cell (by decide)) (nR h.cell (by decide))).trans h.cell, h.now.kept (ho bn h.now.lt (nM h.now).1 (nM h.now).2), own_kept h.steps (fun r hr => ?_), fun g' hg' => ?_, fun a ha b hb hne r hra hrb => ?_, h.inN, h.inT⟩
  · obtain ⟨hlt, cur, hcur⟩ := own_lt h.steps hr
    exact ho r hlt (nT hcur (by decide)) (nR hcur (by decide))
  · by_cases e : g' = g
    · subst e
      refine ⟨Fg.kg, fun r hr => ?_, ?_, ?_, ?_, ?_⟩
      · simp only [updV, if_pos] at hr
        intro hk
        rcases hv r hr with h3 | h3
        · exact Fg.kr r h3 hk
        · have := h.Kb r hk; omega
      · simp only [updV, if_pos, updF_same]; exact hc
      · simp only [updV, if_pos, updF_same]; exact hr
      · simp only [updF_same]; exact h1
      · simp only [updF_same]; exact h2
    · have F' := h.file g' hg'
      have e1 : updV fv g v g' = fv g' := by simp [updV, e]
      have e2 : (updF fl g f) g' = fl g' := updF_other _ _ e
      show FB w' K g' (updF fl g f g') (updV fv g v g')
      rw [e1, e2]
      refine F'.kept (ho g' F'.lt e (nR F'.cell (by decide))) (fun r hr => ?_)
      obtain ⟨hlt, cur, hcur⟩ := own_lt F'.row hr
      exact ho r hlt (nT hcur (by decide)) (fun e3 => h.apart g hg g' hg' (fun e4 => e e4.symm) r e3 hr)
  · by_cases ea : a = g
    · by_cases eb : b = g
      · exact hne (ea.trans eb.symm)
      · simp only [updV, if_pos ea] at hra
        simp only [updV, if_neg eb] at hrb
        rcases hv r hra with h3 | h3
        · exact h.apart g hg b hb (fun e => eb e.symm) r h3 hrb
        · have := (own_lt (h.file b hb).row hrb).1; omega
    · simp only [updV, if_neg ea] at hra
      by_cases eb : b = g
      · simp only [updV, if_pos eb] at hrb
        rcases hv r hrb with h3 | h3
        · exact h.apart a ha g hg ea r hra h3
        · have := (own_lt (h.file a ha).row hra).1; omega
      · simp only [updV, if_neg eb] at hrb
        exact h.apart a ha b hb hne r hra hrb
theorem DKm.cells (h : DKm w d K room bn x2 sv left dead F l fl gs fv) :
    w.cell? ⟨d, 0, none⟩ = some (.int .i64 room) ∧ w.cell? ⟨d, 1, none⟩ = some (.map (some bn)) ∧ w.cell? ⟨d, 2, none⟩ = some x2 ∧ w.cell? ⟨d, 3, none⟩ = some sv ∧ w.cell? ⟨d, 4, none⟩ = some (.int .i64 left) ∧ w.cell? ⟨d, 5, none⟩ = some (.bool dead) := by
  have hc := h.cell
  refine ⟨?_, ?_, ?_, ?_, ?_, ?_⟩ <;> simp [World.cell?, hc]
theorem DKc.mid {S : DS} {bs : Nat} (h : DKc w d S K bn bs sv gs fv) : DKm w d K S.room bn (.map (some bs)) sv S.left S.dead S.now S.steps S.fl gs fv :=
  ⟨h.Kb, h.kd, h.kn, h.kst, h.cell, h.now, h.steps, h.file, h.apart, h.inN, h.inT⟩
end
set_option maxRecDepth 100000 in
set_option maxHeartbeats 2000000 in
theorem settle_m {d : Nat} {K : Nat → Prop} {room : Int} {bn : Nat} {x2 sv : Value} {left : Int} {dead : Bool} {F : Fo} {l : List Stp} {fl : Nat → List UInt8 × Nat} {gs : List Nat} {fv : Nat → Value} (w : World) (h : DKm w d K room bn x2 sv left dead F l fl gs fv) (hx2 : ∃ o, x2 = .map o)
    (h0 : 0 ≤ room) (h1 : room ≤ 1073741824) (h2 : -9223372036854775808 ≤ left) (h3 : left ≤ 9223372036854775807) :
    Calls Tryd.prog 33 #[.pointer (some ⟨d, 0, none⟩)] w fun e w' => e = .returned (.tuple #[]) ∧ DK w' d ⟨room, F, F, [], left, dead, fl⟩ K gs ∧ Keeps K w w' := by
  obtain ⟨o2, rfl⟩ := hx2
  obtain ⟨c0, c1, c2, c3, c4, c5⟩ := h.cells
  have HH : Hid (DKm w d K room bn (.map o2) sv left dead F l fl gs fv) := h
  have HCL := clone_FM h.now
  have HC : Hid (Calls _ _ _ _ _) := HCL
  have hdlt : d < w.heap.size := (Array.getElem?_eq_some_iff.1 h.cell).1
  obtain ⟨sa, sc, rfl, _⟩ := own_form h.steps
  clear h HCL c0 c2 c4 c5 c3
  go_enter Tryd.func33, Tryd.ntmps33
  go_wp2_with fail
  refine HC.out.mono ?_
  rintro e w1 ⟨rfl, hf1, hb1, hs1⟩
  have HM1 : Hid (DKm w1 d K room bn (.map o2) (.slice sa l.length sc) left dead F l fl gs fv) := HH.out.below hb1
  have HF1 : Hid (FM w1 w.heap.size F) := hf1
  have hcell1 := HM1.out.cell
  obtain ⟨_, _, d2, d3, _, _⟩ := HM1.out.cells
  have f2 : w1.frozen? ⟨d, 2, none⟩ = false := by simp [World.frozen?, hcell1]
  have f3 : w1.frozen? ⟨d, 3, none⟩ = false := by simp [World.frozen?, hcell1]
  have HB1 : Hid (Below w.heap.size w w1) := hb1
  have HKB : Hid (∀ k, K k → k < w.heap.size) := HH.out.Kb
  have hne : w.heap.size ≠ bn := by have := HH.out.now.lt; omega
  have HC1 : Hid (w1.heap[d]? = some (.cells #[.int .i64 room, .map (some bn), .map o2, .slice sa l.length sc, .int .i64 left, .bool dead] 65 (0, 0))) := hcell1
  clear hf1 hb1 hcell1 c1 hs1
  go_wp2
  go_end0
  have hM := HM1.out
  have hd1 : w.heap.size ≠ d := by omega
  have hsz : ((w1.setCell ⟨d, 2, none⟩ (.map (some w.heap.size))).setCell ⟨d, 3, none⟩ (.slice none 0 0)).heap.size = w1.heap.size := by simp [World.setCell]
  have ho : ∀ k, k ≠ d → ((w1.setCell ⟨d, 2, none⟩ (.map (some w.heap.size))).setCell ⟨d, 3, none⟩ (.slice none 0 0)).heap[k]? = w1.heap[k]? := fun k hk => (setc_o hk).trans (setc_o hk)
  obtain ⟨n1, n2, n3⟩ := hM.ne_n
  obtain ⟨m2, m3⟩ := hM.ne_d
  refine ⟨rfl, ⟨bn, w.heap.size, .slice none 0 0, fv, ⟨fun k hk => ?_, hM.kd, hM.kn, fun hk => ?_, hne.symm, fun r hr => (by cases hr), ?_, ?_, ?_, World.ownsRow_nil _ _ _ _, fun g hg => ?_, hM.apart, hM.inN, hM.inN, fun s hs => (by cases hs), h0, h1, h2, h3⟩⟩, ?_⟩
  · rw [hsz]; exact hM.Kb k hk
  · have := HKB.out _ hk; omega
  · rw [setc (setc HC1.out)]; rfl
  · exact hM.now.kept (ho _ (fun e => n1 e.symm))
  · exact HF1.out.kept (ho _ hd1)
  · exact (hM.file g hg).kept (ho g (m3 g hg).1) (fun r hr => ho r ((m3 g hg).2 r hr))
  · exact ((Keeps.of_below HB1.out HKB.out).setCell hM.kd _).setCell hM.kd _
theorem se_dead {S : DS} (h : (dieS S).dead = true) : seE S = 10 ∧ seS S = dieS S := by unfold seE seS; rw [if_pos h, if_pos h]; exact ⟨rfl, rfl⟩
theorem se_ok {S : DS} (h : ¬ (dieS S).dead = true) : seE S = 0 ∧ seS S = settS (dieS S) := by unfold seE seS; rw [if_neg h, if_neg h]; exact ⟨rfl, rfl⟩
set_option maxRecDepth 100000 in
set_option maxHeartbeats 2000000 in
theorem settle_any {d : Nat} {S : DS} {K : Nat → Prop} {gs : List Nat} (w : World) (h : DK w d S K gs) :
    Calls Tryd.prog 19 #[.pointer (some ⟨d, 0, none⟩)] w fun e w' => e = .returned (.int .i64 (seE S)) ∧ DK w' d (seS S) K gs ∧ Keeps K w w' := by
  have HDI : Hid (Calls Tryd.prog _ _ _ _) := DK.dies w h
  by_cases hdead : (dieS S).dead = true
  · have HE : Hid _ := se_dead hdead
    go_enter Tryd.func19, Tryd.ntmps19
    go_wp2_with (go_at_call 30; refine HDI.out.mono ?_; rw [hdead]; rintro e w1 ⟨rfl, hd1, hk1⟩)
    go_ret
    rw [HE.out.1, HE.out.2]
    exact ⟨rfl, hd1, hk1⟩
  have hdf : (dieS S).dead = false := by simpa using hdead
  have HE : Hid _ := se_ok hdead
  clear hdead h
  go_enter Tryd.func19, Tryd.ntmps19
  go_wp2_with fail
  refine HDI.out.mono ?_
  rw [hdf]
  rintro e w1 ⟨rfl, hd1, hk1⟩
  have HK1 : Hid (Keeps K w w1) := hk1
  obtain ⟨bn, bs, sv, fv, hc1⟩ := hd1
  have HS := settle_m w1 hc1.mid ⟨_, rfl⟩ hc1.room0 hc1.room1 hc1.left0 hc1.left1
  have HST : Hid (Calls _ _ _ _ _) := HS
  have HSS : Hid (settS (dieS S) = ⟨(dieS S).room, (dieS S).now, (dieS S).now, [], (dieS S).left, (dieS S).dead, (dieS S).fl⟩) := rfl
  clear hc1 HS hk1 HDI
  go_wp2_with (go_at_call 33; refine HST.out.mono ?_; rintro e w2 ⟨rfl, hd2, hk2⟩)
  go_ret
  rw [HE.out.1, HE.out.2, HSS.out]
  exact ⟨rfl, hd2, HK1.out.trans hk2⟩
end Go.Proofs.YtmjfcneofpddiaaDoor
