/- Contract: wal's Parse. -/
import Derived.Test.YtkaikjlklhcnlaaWalB
namespace Go.Proofs.Ytkaikjlklhcnlaa
open Go.RowKit
set_option linter.unusedVariables false
set_option linter.unusedSimpArgs false

/-- What stands behind the records that are taken already. -/
structure PrI (s : List UInt8) (l : List (List UInt8)) (t : Nat) : Prop where
  le : l.length ≤ 200
  tl : t ≤ s.length
  eq : prs 200 s = (l ++ (prs (200 - l.length) (s.drop t)).1, t + (prs (200 - l.length) (s.drop t)).2)
theorem PrI.start (s : List UInt8) : PrI s [] 0 := ⟨by simp, by simp, by simp⟩
theorem PrI.step {s : List UInt8} {l : List (List UInt8)} {t : Nat} (h : PrI s l t) (hl : l.length < 200) {r : List UInt8} (hr : fst1 (s.drop t) = some r) : PrI s (l ++ [r]) (t + (8 + r.length)) ∧ r.length ≤ 5000 := by
  obtain ⟨h1, h2, h3⟩ := fst1_sound hr
  rw [List.length_drop] at h2
  have ht := h.tl
  refine ⟨⟨by simp; omega, by omega, ?_⟩, h1⟩
  rw [h.eq]
  obtain ⟨k, hk⟩ : ∃ k, 200 - l.length = k + 1 := ⟨200 - l.length - 1, by omega⟩
  rw [hk, prs, hr]
  have : 200 - (l ++ [r]).length = k := by simp; omega
  simp only [this, List.append_assoc, List.singleton_append, List.drop_drop]
  congr 1
  omega
theorem PrI.stop {s : List UInt8} {l : List (List UInt8)} {t : Nat} (h : PrI s l t) (hr : fst1 (s.drop t) = none) : prs 200 s = (l, t) := by
  rw [h.eq]
  cases hk : 200 - l.length with
  | zero => simp [prs]
  | succ k => simp [prs, hr]
theorem PrI.full {s : List UInt8} {l : List (List UInt8)} {t : Nat} (h : PrI s l t) (hl : ¬ l.length < 200) : prs 200 s = (l, t) := by
  rw [h.eq, show 200 - l.length = 0 by omega]; simp [prs]
set_option maxRecDepth 100000 in
set_option maxHeartbeats 1000000 in
theorem parse_any (s : List UInt8) (w : World) (hs : s.length ≤ 1099511627776) :
    Calls Try.prog 10 #[.string (mkT s)] w fun e w' => ∃ v, e = .returned (.tuple #[v, .int .i64 ((prs 200 s).2 : Int)]) ∧ OS w' w.heap.size v (prs 200 s).1 ∧ Below w.heap.size w w' := by
  obtain ⟨n, hn⟩ : ∃ n, n = s.length := ⟨_, rfl⟩
  have HN : Hid (n = s.length) := hn
  rw [← hn] at hs
  clear hn
  have hsz : (mkT s).size = n := by rw [mkT_sz]; exact HN.out.symm
  obtain ⟨T, hT⟩ : ∃ T, T = mkT s := ⟨_, rfl⟩
  have HT : Hid (T = mkT s) := hT
  rw [← hT] at hsz
  rw [← hT]
  clear hT
  go_enter Try.func10, Try.ntmps10
  go_wp2
  go_loopw [4, 5] (fun v u wr => ∃ (l : List (List UInt8)) (t : Nat), u = .int .i64 (t : Int) ∧ PrI s l t ∧ OS wr w.heap.size v l ∧ Below w.heap.size w wr) (fun _ u _ => n - (intOf u).toNat)
  case atStart => exact ⟨[], 0, rfl, PrI.start s, ⟨rfl, .inl ⟨rfl, rfl⟩⟩, Below.refl _ _⟩
  case round =>
    obtain ⟨l, t, rfl, hp, ho, hb⟩ := hrel
    obtain ⟨a, c, rfl⟩ := ho.shape
    have HP : Hid (PrI s l t) := hp
    have HO : Hid (OS wr w.heap.size (.slice a l.length c) l) := ho
    have HB : Hid (Below w.heap.size w wr) := hb
    have htn : t ≤ n := by have := hp.tl; rw [← HN.out] at this; exact this
    have hll := hp.le
    clear hp ho hb
    by_cases hl : l.length < 200
    · have hli : (l.length : Int) < 200 := by omega
      have HX : Hid (T.extract t n = mkT (s.drop t)) := by
        unfold Hid; rw [HT.out, mkT_cut, List.take_of_length_le (by rw [List.length_drop, ← HN.out]; omega)]
      have HF : Hid (∀ W, Calls Try.prog _ _ W _) := fun W => first_any (s.drop t) W (by rw [List.length_drop, ← HN.out]; omega)
      have hti : (t : Int) ≤ (n : Int) := by omega
      go_wp2_with fail
      rw [show T.extract t n = mkT (s.drop t) from HX.out]
      refine (HF.out _).mono ?_
      cases hr : fst1 (s.drop t) with
      | none =>
        have HR : Hid (prs 200 s = (l, t)) := HP.out.stop hr
        simp only [Option.getD_none, Option.isSome_none]
        rintro e w1 ⟨rfl, hb1⟩
        have HB1 : Hid (Below w.heap.size w w1) := HB.out.trans (hb1.mono HB.out.size)
        have HO1 : Hid (OS w1 w.heap.size (.slice a l.length c) l) := HO.out.below hb1
        clear hb1 hr
        go_wp2
        go_ret2
        rw [HR.out]
        exact ⟨_, rfl, HO1.out, HB1.out⟩
      | some r =>
        obtain ⟨hp2, hr5⟩ := HP.out.step hl hr
        have HP2 : Hid (PrI s (l ++ [r]) (t + (8 + r.length))) := hp2
        simp only [Option.getD_some, Option.isSome_some]
        rintro e w1 ⟨rfl, hb1⟩
        have HB1 : Hid (Below w.heap.size w w1) := HB.out.trans (hb1.mono HB.out.size)
        have HO1 : Hid (OS w1 w.heap.size (.slice a l.length c) l) := HO.out.below hb1
        have hB1 : w.heap.size ≤ w1.heap.size := HB1.out.size
        have hrs := mkT_sz r
        have ht2 : t + (8 + r.length) ≤ n := by have := hp2.tl; rw [← HN.out] at this; exact this
        clear hb1 hr hp2
        go_wp2_with (at_builtin; refine append_one rfl _ _ rfl w.heap.size (.slice a l.length c) l r rfl rfl HO1.out (by omega) hB1 ?_; intro a' c' w2 hO2 hg2 _)
        have HO2 : Hid _ := hO2
        have HB2 : Hid (Below w.heap.size w w2) := HB1.out.grown hg2 hB1 (fun k hk => (HO1.out.lt k hk).1)
        clear hO2 hg2
        go_wp2
        go_roundw
        case rel => exact ⟨l ++ [r], t + (8 + r.length), by go_num, HP2.out, HO2.out, HB2.out⟩
        case measure => simp [intOf]; omega
    · have HR : Hid (prs 200 s = (l, t)) := HP.out.full hl
      have hli : ¬ (l.length : Int) < 200 := by omega
      go_wp2
      go_ret2
      rw [HR.out]
      exact ⟨_, rfl, HO.out, HB.out⟩
end Go.Proofs.Ytkaikjlklhcnlaa
