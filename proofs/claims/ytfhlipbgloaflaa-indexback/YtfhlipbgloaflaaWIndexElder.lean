/- The law IndexElder: its walk. -/
import Derived.Test.YtfhlipbgloaflaaIdx2
import Derived.BigQuiet
import Derived.Deep.QuietTactic
namespace Go.Proofs.Ytfhlipbgloaflaa
open Go.RowKit Go.Maps
set_option linter.unusedVariables false
set_option linter.unusedSimpArgs false

theorem few_ok {l : List Hd} (hl : ∀ x ∈ l, x.fits) : ∀ h ∈ fewL l, h.ok ∧ h.n.length = 64 := by
  intro h hh
  obtain ⟨x, hx, rfl⟩ := List.mem_map.1 hh
  obtain ⟨_, ⟨c0, c1⟩, _⟩ := hl x (List.mem_of_mem_take hx)
  refine ⟨⟨⟨?_, ?_⟩, ⟨c0, c1⟩, ⟨?_, ?_⟩, ⟨?_, ?_⟩, ⟨?_, ?_⟩⟩, by simp [fewH, digL_len]⟩ <;> simp only [fewH] <;> omega
theorem few_len (l : List Hd) : (fewL l).length ≤ 12 := by simp [fewL]; omega
theorem below_drewN {B : Nat} {a b : World} (h : Below B a b) (n : Nat) : Below B a (b.drewN n) := ⟨h.os, h.tape, h.output, h.size, h.block⟩
def one : List UInt8 := [111, 110, 101]
def two : List UInt8 := [116, 119, 111]
/-- Which of the names at the front is this? -/
def tw (l : List Hd) (j : Nat) (q : List UInt8) : Bool := (l.take j).any (fun h => h.n == q)
theorem tw_succ (l : List Hd) (j : Nat) (q : List UInt8) (h : Hd) (hj : l[j]? = some h) : tw l (j + 1) q = (tw l j q || (h.n == q)) := by
  unfold tw; rw [List.take_add_one, hj, List.any_append]; simp
/-- What stands in the other index, when those from j on are asked. -/
def EldP (l : List Hd) (j : Nat) (F : As Pl) : Prop := ∀ q, lkA F q = if tw l j q then none else (l.find? (fun h => h.n == q)).map (fun h => ⟨one, h⟩)
theorem eld_start (l : List Hd) : EldP l l.length [] := by
  intro q
  unfold tw
  rw [List.take_length, lkA_nil]
  by_cases h : l.any (fun h => h.n == q) = true
  · rw [if_pos h]
  · rw [if_neg h]
    have : l.find? (fun h => h.n == q) = none := by
      rw [List.find?_eq_none]; intro x hx hq
      exact h (List.any_eq_true.2 ⟨x, hx, hq⟩)
    rw [this]; rfl
theorem eld_skip {l : List Hd} {j : Nat} {F : As Pl} {h : Hd} (hj : l[j]? = some h) (hE : EldP l (j + 1) F) (ht : tw l j h.n = true) : EldP l j F := by
  intro q
  rw [hE q, tw_succ l j q h hj]
  by_cases e : h.n = q
  · subst e; rw [ht]; rfl
  · rw [show (h.n == q) = false from beq_eq_false_iff_ne.2 e, Bool.or_false]
theorem find_first {l : List Hd} {j : Nat} {h : Hd} (hj : l[j]? = some h) (ht : tw l j h.n = false) : l.find? (fun x => x.n == h.n) = some h := by
  have e := List.take_append_drop j l
  have hd : l.drop j = h :: l.drop (j + 1) := by
    have hl := (List.getElem?_eq_some_iff.1 hj)
    rw [List.drop_eq_getElem_cons hl.1, hl.2]
  rw [← e, List.find?_append]
  have : (l.take j).find? (fun x => x.n == h.n) = none := by
    rw [List.find?_eq_none]; intro x hx hq
    have : tw l j h.n = true := List.any_eq_true.2 ⟨x, hx, hq⟩
    rw [ht] at this; cases this
  rw [this, hd, List.find?_cons_of_pos (by simp)]; rfl
theorem eld_put {l : List Hd} {j : Nat} {F : As Pl} {h : Hd} (hj : l[j]? = some h) (hE : EldP l (j + 1) F) (ht : tw l j h.n = false) : EldP l j (adH one F [h]) := by
  intro q
  rw [adH_lk, hE q, tw_succ l j q h hj]
  by_cases e : h.n = q
  · subst e
    rw [ht, List.find?_cons_of_pos (by simp), find_first hj ht]
    simp
  · rw [show (h.n == q) = false from beq_eq_false_iff_ne.2 e, Bool.or_false, List.find?_cons_of_neg (by simp [e])]
    cases tw l j q
    · cases (l.find? (fun h => h.n == q)) <;> rfl
    · rfl
theorem eld_end {l : List Hd} {F : As Pl} (h : EldP l 0 F) (q : List UInt8) : lkA F q = lkA (adH one [] l) q := by
  rw [h q, adH_lk, lkA_nil]
  simp [tw]
theorem lk_src {k : List UInt8} {F : As Pl} {hs : List Hd} {q : List UInt8} {p : Pl} (h : lkA (adH k F hs) q = some p) : lkA F q = some p ∨ (p.k = k ∧ p.h ∈ hs ∧ p.h.n = q) := by
  rw [adH_lk] at h
  cases e : lkA F q with
  | some p' => rw [e] at h; left; exact h
  | none =>
    rw [e] at h
    right
    simp only [Option.none_or, Option.map_eq_some_iff] at h
    obtain ⟨x, hx, rfl⟩ := h
    exact ⟨rfl, List.mem_of_find?_eq_some hx, by simpa using List.find?_some hx⟩
/-- Places whose heads may be written, under names of 64 bytes. -/
def POk (F : As Pl) : Prop := ∀ q p, lkA F q = some p → p.h.ok ∧ q.length ≤ 64 ∧ p.k.length ≤ 5
theorem POk.nil : POk [] := fun q p h => by cases h
theorem POk.add {F : As Pl} (h : POk F) {k : List UInt8} (hk : k.length ≤ 5) {hs : List Hd} (hh : ∀ x ∈ hs, x.ok ∧ x.n.length = 64) : POk (adH k F hs) := fun q p hp => by
  rcases lk_src hp with h1 | ⟨h1, h2, h3⟩
  · exact h q p h1
  · exact ⟨(hh _ h2).1, by rw [← h3, (hh _ h2).2]; exact Nat.le_refl _, by rw [h1]; exact hk⟩
theorem encP_any {x : Nat} {m1 m2 : Option Nat} {ps : List (List UInt8)} {F : As Pl} (w : World) (h : IXo w x m1 m2 ps F) (hnd : ps.Nodup) (hp : ∀ p ∈ ps, p.length ≤ 5) (hpl : ps.length ≤ 3) (hF : F.length ≤ 1000) (hk : POk F) :
    Calls Try.prog 13 #[.pointer (some ⟨x, 0, none⟩)] w fun e w' => e = .returned (.string (mkB (encI ps F))) ∧ Below w.heap.size w w' :=
  encode_any w h hnd (fun y p hp => ⟨(hk y p hp).1, by have := (hk y p hp).2.2; omega⟩) (by omega) (by omega) (encI_len (fun p hp' => by have := hp p hp'; omega) (by omega) hF (fun x p hp => ⟨by have := (hk x p hp).2.1; omega, (hk x p hp).1⟩))
theorem HV.cut {w : World} {K : Nat → Prop} {a : Option Addr} {n cap : Nat} {l : List Hd} (h : HV w K (.slice a n cap) l) (i : Nat) (x : Hd) (hx : l[i]? = some x) : ∃ g o, a = some ⟨g, o, none⟩ ∧ HV w K (.slice (some ⟨g, o + i * 6, none⟩) 1 (cap - i)) [x] := by
  obtain ⟨a', cap', e, hc, hf⟩ := h
  injection e with e1 e2 e3
  subst e1 e3
  obtain ⟨g, o, rfl, hg, hl, hh⟩ := hf (fun q => by rw [q] at hx; simp at hx)
  have hi := (List.getElem?_eq_some_iff.1 hx).1
  refine ⟨g, o, rfl, _, _, rfl, by simp; omega, fun _ => ⟨g, o + i * 6, rfl, hg, hl, fun j u hu => ?_⟩⟩
  have hj : j < 6 := by have := (List.getElem?_eq_some_iff.1 hu).1; simpa [hdsC, hdC] using this
  rw [Nat.add_assoc]
  refine hh _ _ ?_
  rw [hdsC_at l i x hx j hj, ← hu]
  simp [hdsC]
set_option maxRecDepth 100000 in
set_option maxHeartbeats 4000000 in
theorem lawIndexElder_walk (a0 : Option Addr) (n0 c0 : Nat) (l0 : List Hd) (a1 : Option Addr) (n1 c1 : Nat) (l1 : List Hd) (w : World) (h0 : IsHds w a0 n0 c0 l0) (h1 : IsHds w a1 n1 c1 l1) :
    Calls Try.prog 6 #[.slice a0 n0 c0, .slice a1 n1 c1] w fun e w' => e = .returned (.bool true) ∧ Below w.heap.size w w' := by
  obtain ⟨-, -, hf0, hv0⟩ := h0
  obtain ⟨-, -, hf1, hv1⟩ := h1
  have hzi := zeroIx
  have hzh := zeroHd
  have HOK0 : Hid (∀ h ∈ fewL l0, h.ok ∧ h.n.length = 64) := few_ok hf0
  have HOK1 : Hid (∀ h ∈ fewL l1, h.ok ∧ h.n.length = 64) := few_ok hf1
  obtain ⟨W1, hW1⟩ : ∃ W1, W1 = (w.alloc (.cells #[.map none, .map none] 27)).alloc (.cells #[.map none, .map none] 27) := ⟨_, rfl⟩
  have HI1 : Hid (II W1 w.heap.size (w.heap.size + 1) (fun k => k < w.heap.size) [] [] [] []) := by unfold Hid; rw [hW1]; exact II.zero w
  have hb1 : Below w.heap.size w W1 := by rw [hW1]; exact ((Below.refl _ w).alloc (Nat.le_refl _) _).alloc (by simp) _
  have HV0 : Hid (HV w (fun k => k < w.heap.size) (.slice a0 n0 c0) l0) := hv0
  have HV1 : Hid (HV w (fun k => k < w.heap.size) (.slice a1 n1 c1) l1) := hv1
  have HFEW : Hid (∀ v l W, HV w (fun k => k < w.heap.size) v l → Keeps (fun k => k < w.heap.size) w W → Calls Try.prog 18 #[v] W fun e w' => ∃ a' c', e = .returned (.slice a' (fewL l).length c') ∧ HO w' W.heap.size (.slice a' (fewL l).length c') (fewL l) ∧ Below W.heap.size W w') := fun v l W hv hk =>
    few17_any v l W (hv.kept hk (fun k (hk' : k < w.heap.size) => Nat.lt_of_lt_of_le hk' hk.size))
  have HK1 : Hid (Keeps (fun k => k < w.heap.size) w W1) := Keeps.of_below hb1 (fun k hk => hk)
  clear hf0 hf1 hv0 hv1 hb1
  go_enter Try.func6, Try.ntmps6
  go_wp2_with fail
  rw [← hW1]
  clear hW1
  refine (HFEW.out _ _ W1 HV0.out HK1.out).mono ?_
  rintro e w2 ⟨fa, fc, rfl, hO2, hb2⟩
  have HK2 : Hid (Keeps (fun k => k < w.heap.size) w w2) := HK1.out.trans (Keeps.of_below hb2 (fun k hk => Nat.lt_of_lt_of_le hk HK1.out.size))
  have HI2 : Hid (II w2 w.heap.size (w.heap.size + 1) (fun k => k < w.heap.size ∨ (W1.heap.size ≤ k ∧ k < w2.heap.size)) [] [] [] []) := HI1.out.below hb2
  have HVf : Hid (HV w2 (fun k => k < w.heap.size ∨ (W1.heap.size ≤ k ∧ k < w2.heap.size)) (.slice fa (fewL l0).length fc) (fewL l0)) := HO.hv hO2 (fun k hk => .inr (World.ownsRow.lt hO2 k hk))
  have hfl := few_len l0
  have hfl1 := few_len l1
  obtain ⟨H, hH⟩ : ∃ H : Nat → Prop, H = (fun k => k < w.heap.size ∨ (W1.heap.size ≤ k ∧ k < w2.heap.size)) := ⟨_, rfl⟩
  have HH : Hid (∀ k, k < w.heap.size → H k) := fun k hk => by rw [hH]; exact .inl hk
  rw [← hH] at HI2 HVf
  clear hO2 hb2 HI1 HK1 hH
  obtain ⟨f, hf⟩ : ∃ f, f = fewL l0 := ⟨_, rfl⟩
  rw [← hf] at HVf hfl HOK0 ⊢
  clear hf
  obtain ⟨n, hn⟩ : ∃ n, n = f.length := ⟨_, rfl⟩
  have HN : Hid (n = f.length) := hn
  rw [← hn] at HVf hfl ⊢
  clear hn
  go_wp2_with fail
  refine (HI2.out.add one (.slice fa n fc) f HVf.out (by decide) (fun y hy => by have := (HOK0.out y hy).2; omega) (by decide) (by rw [← HN.out]; simp; omega)).mono ?_
  rintro e w3 ⟨rfl, hI3, hk3⟩
  have HI3 : Hid (II w3 w.heap.size (w.heap.size + 1) H (adP [] one) (adH one [] f) [] []) := hI3
  have HK3 : Hid (Keeps (fun k => k < w.heap.size) w w3) := HK2.out.trans (hk3.mono HH.out)
  have HVf3 : Hid (HV w3 H (.slice fa n fc) f) := HVf.out.kept hk3 (fun _ h => h)
  clear hI3 hk3 HI2 HK2 HVf
  go_wp2
  go_loopw [8] (fun i wr => ∃ (j : Nat) (py : List (List UInt8)) (Fy : As Pl), j ≤ n ∧ i = .int .i64 ((j : Int) - 1) ∧ II wr w.heap.size (w.heap.size + 1) H [one] (adH one [] f) py Fy ∧ EldP f j Fy ∧ ((py = [] ∧ Fy = []) ∨ py = [one]) ∧ Fy.length + j ≤ n ∧ POk Fy ∧ HV wr H (.slice fa n fc) f ∧ Keeps (fun k => k < w.heap.size) w wr) (fun i _ => ((intOf i) + 1).toNat)
  case atStart => exact ⟨n, [], [], Nat.le_refl _, rfl, HI3.out, by rw [HN.out]; exact eld_start f, .inl ⟨rfl, rfl⟩, by simp, POk.nil, HVf3.out, HK3.out⟩
  case round =>
    obtain ⟨j, py, Fy, hj, rfl, hI, hE, hpy, hlen, hpok, hV, hK⟩ := hrel
    have HI : Hid (II wr w.heap.size (w.heap.size + 1) H [one] (adH one [] f) py Fy) := hI
    have HE : Hid (EldP f j Fy) := hE
    have HPY : Hid ((py = [] ∧ Fy = []) ∨ py = [one]) := hpy
    have HLE : Hid (Fy.length + j ≤ n) := hlen
    have HPO : Hid (POk Fy) := hpok
    have HVr : Hid (HV wr H (.slice fa n fc) f) := hV
    have HKr : Hid (Keeps (fun k => k < w.heap.size) w wr) := hK
    clear hI hE hpy hlen hpok hV hK HI3 HK3 HVf3
    by_cases hj0 : 0 < j
    · obtain ⟨i, rfl⟩ : ∃ i, j = i + 1 := ⟨j - 1, by omega⟩
      have hin : i < n := by omega
      obtain ⟨h, hh⟩ : ∃ h, f[i]? = some h := ⟨_, List.getElem?_eq_getElem (by rw [← HN.out]; exact hin)⟩
      have e1 : ((i + 1 : Nat) : Int) - 1 = (i : Int) := by omega
      rw [e1]
      have hi0 : (0 : Int) ≤ (i : Int) := by omega
      obtain ⟨g, o, rfl, hgH, -, hcap, q0, q1, q2, q3, q4, q5⟩ := HVr.out.at hh
      have hini : (i : Int) ≤ (fc : Int) := by omega
      have HWZ : Hid (g < wr.heap.size) := HI.out.Hb g hgH
      clear q0 q1 q2 q3 q4 q5
      go_wp2
      generalize wr = WR at *
      go_loopw [9, 36] (fun t k wq => ∃ (m : Nat), m ≤ i ∧ k = .int .i64 (m : Int) ∧ t = .bool (tw f m h.n) ∧ Below WR.heap.size WR wq) (fun _ k _ => i - (intOf k).toNat)
      case atStart => exact ⟨0, Nat.zero_le _, rfl, rfl, Below.refl _ _⟩
      case round =>
        obtain ⟨m, hm, rfl, rfl, hb⟩ := hrel
        have HB : Hid (Below WR.heap.size WR wr) := hb
        have hkp : Keeps H WR wr := Keeps.of_below hb HI.out.Hb
        have hVq := HVr.out.kept hkp (fun _ h => h)
        clear hb hkp
        by_cases hlt : m < i
        · have hlti : (m : Int) < (i : Int) := by omega
          obtain ⟨y, hy⟩ : ∃ y, f[m]? = some y := ⟨_, List.getElem?_eq_getElem (by rw [← HN.out]; omega)⟩
          obtain ⟨g', o', eg, -, -, -, e0, e1, e2, e3, e4, e5⟩ := hVq.at hy
          obtain ⟨g'', o'', eg', -, -, -, z0, -⟩ := hVq.at hh
          injection eg with eg; injection eg with eg1 eg2
          subst eg1 eg2
          injection eg' with eg'; injection eg' with eg1 eg2
          subst eg1 eg2
          have HTW : Hid (tw f (m + 1) h.n = (tw f m h.n || (y.n == h.n))) := tw_succ f m h.n y hy
          have hini2 : (i : Int) < (n : Int) := by omega
          have hgl : g < wr.heap.size := Nat.lt_of_lt_of_le HWZ.out HB.out.size
          have hbeq := mkB_beq y.n h.n
          have hdec : decide (y.n = h.n) = (y.n == h.n) := by
            by_cases e : y.n = h.n
            · rw [decide_eq_true e, e]; simp
            · rw [decide_eq_false e]; exact (beq_eq_false_iff_ne.2 e).symm
          rw [hdec] at hbeq
          generalize (y.n == h.n) = be at *
          clear hVq hdec
          obtain ⟨W2, hW2⟩ : ∃ W2, W2 = wr.alloc (.cells #[.string (mkB y.n), .int .i64 y.m, .int .u32 y.c, .int .i64 y.p, .int .i64 y.s, .int .i64 y.a] 38) := ⟨_, rfl⟩
          have hN2 : W2.heap[wr.heap.size]? = some (.cells #[.string (mkB y.n), .int .i64 y.m, .int .u32 y.c, .int .i64 y.p, .int .i64 y.s, .int .i64 y.a] 38 (0, 0)) := by rw [hW2]; exact heap_alloc_new _ _
          have d0 : W2.cell? ⟨wr.heap.size, 0, none⟩ = some (.string (mkB y.n)) := (cell_of_row _ _ _ _ _ _ hN2).trans rfl
          have d1 : W2.cell? ⟨g, o + i * 6, none⟩ = some (.string (mkB h.n)) := by rw [hW2, World.cell?_of_block (a := ⟨g, o + i * 6, none⟩) (Below.heap_alloc _ _ _ hgl)]; exact z0
          have HB2 : Hid (Below WR.heap.size WR W2) := by unfold Hid; rw [hW2]; exact HB.out.alloc HB.out.size _
          clear hN2
          cases htw : tw f m h.n
          · rw [htw, Bool.false_or] at HTW
            go_upto_region 11 with fail
            rw [← hW2]
            clear hW2 e0 e1 e2 e3 e4 e5 z0
            go_quiet (fail)
            go_wp2
            go_roundw
            case rel => exact ⟨m + 1, by omega, by go_num, by rw [HTW.out], below_drewN HB2.out _⟩
            case measure => simp [intOf]; omega
          · rw [htw, Bool.true_or] at HTW
            go_upto_region 11 with fail
            rw [← hW2]
            clear hW2 e0 e1 e2 e3 e4 e5 z0
            go_quiet (fail)
            go_wp2
            go_roundw
            case rel => exact ⟨m + 1, by omega, by go_num, by rw [HTW.out], below_drewN HB2.out _⟩
            case measure => simp [intOf]; omega
        · have hlti : ¬ (m : Int) < (i : Int) := by omega
          obtain rfl : m = i := by omega
          have HI2 : Hid (II wr w.heap.size (w.heap.size + 1) H [one] (adH one [] f) py Fy) := (HI.out.below HB.out).less (fun k hk => .inl hk)
          have HKq : Hid (Keeps (fun k => k < w.heap.size) w wr) := HKr.out.trans (Keeps.of_below HB.out (fun k hk => Nat.lt_of_lt_of_le hk HKr.out.size))
          obtain ⟨g', o', eg, hVc⟩ := hVq.cut m h hh
          injection eg with eg; injection eg with eg1 eg2
          subst eg1 eg2
          have HVq : Hid (HV wr H (.slice (some ⟨g, o, none⟩) n fc) f) := hVq
          have HVc : Hid (HV wr H (.slice (some ⟨g, o + m * 6, none⟩) 1 (fc - m)) [h]) := hVc
          clear hVq hVc
          have hcc : (m : Int) + 1 ≤ (fc : Int) := by omega
          have hmm : (m : Int) ≤ (m : Int) + 1 := by omega
          have HOKh : Hid (h.ok ∧ h.n.length = 64) := HOK0.out h (List.mem_of_getElem? hh)
          cases htw : tw f m h.n
          · have HE2 : Hid (EldP f m (adH one Fy [h])) := eld_put hh HE.out htw
            have HPO2 : Hid (POk (adH one Fy [h])) := HPO.out.add (by decide) (fun x hx => by rw [List.mem_singleton] at hx; rw [hx]; exact HOKh.out)
            have HLE2 : Hid ((adH one Fy [h]).length + m ≤ n) := by have h8 := adH_len one Fy [h]; have h9 := HLE.out; simp at h8; unfold Hid; omega
            have HPY2 : Hid (adP py one = [one]) := by
              rcases HPY.out with ⟨rfl, _⟩ | rfl
              · rfl
              · rfl
            go_wp2_with fail
            refine (HI2.out.symm.add one _ [h] HVc.out (by decide) (fun y hy => by rw [List.mem_singleton] at hy; rw [hy, HOKh.out.2]; decide) (by rcases HPY.out with ⟨rfl, _⟩ | rfl <;> decide) (by have := HLE.out; simp; omega)).mono ?_
            rintro e w5 ⟨rfl, hI5, hk5⟩
            rw [HPY2.out] at hI5
            have HI5 : Hid (II w5 w.heap.size (w.heap.size + 1) H [one] (adH one [] f) [one] (adH one Fy [h])) := hI5.symm
            have HV5 : Hid (HV w5 H (.slice (some ⟨g, o, none⟩) n fc) f) := HVq.out.kept hk5 (fun _ h => h)
            have HK5 : Hid (Keeps (fun k => k < w.heap.size) w w5) := HKq.out.trans (hk5.mono HH.out)
            clear hI5 hk5 HI2 HVq HVc
            go_wp2
            go_roundw
            case rel => exact ⟨m, [one], _, by omega, by go_num, HI5.out, HE2.out, .inr rfl, HLE2.out, HPO2.out, HV5.out, HK5.out⟩
            case measure => simp [intOf]
          · have HE2 : Hid (EldP f m Fy) := eld_skip hh HE.out htw
            go_wp2
            go_roundw
            case rel => exact ⟨m, py, Fy, by omega, by go_num, HI2.out, HE2.out, HPY.out, by have := HLE.out; omega, HPO.out, HVq.out, HKq.out⟩
            case measure => simp [intOf]
    · obtain rfl : j = 0 := by omega
      have hj9 : ¬ (0 : Int) ≤ ((0 : Nat) : Int) - 1 := by omega
      have hlk : ∀ q, lkA Fy q = lkA (adH one [] f) q := eld_end HE.out
      have HLK : Hid (∀ q, lkA Fy q = lkA (adH one [] f) q) := hlk
      clear hlk HE
      go_wp2_with fail
      refine (HFEW.out _ _ wr HV1.out HKr.out).mono ?_
      rintro e w5 ⟨ga, gc, rfl, hO5, hb5⟩
      have HI5 : Hid (II w5 w.heap.size (w.heap.size + 1) (fun k => H k ∨ (wr.heap.size ≤ k ∧ k < w5.heap.size)) [one] (adH one [] f) py Fy) := HI.out.below hb5
      have HV5 : Hid (HV w5 (fun k => H k ∨ (wr.heap.size ≤ k ∧ k < w5.heap.size)) (.slice ga (fewL l1).length gc) (fewL l1)) := HO.hv hO5 (fun k hk => .inr (World.ownsRow.lt hO5 k hk))
      have HK5 : Hid (Keeps (fun k => k < w.heap.size) w w5) := HKr.out.trans (Keeps.of_below hb5 (fun k hk => Nat.lt_of_lt_of_le hk HKr.out.size))
      have HVf5 : Hid (HV w5 H (.slice fa n fc) f) := HVr.out.kept (Keeps.of_below hb5 HI.out.Hb) (fun _ h => h)
      clear hO5 hb5 HI HVr HKr
      have HF1 : Hid ((adH one [] f).length ≤ 12) := by have h8 := adH_len one [] f; rw [← HN.out] at h8; simp at h8; unfold Hid; omega
      go_wp2_with fail
      refine (HI5.out.add two _ (fewL l1) HV5.out (by decide) (fun y hy => by have := (HOK1.out y hy).2; omega) (by decide) (by have := HF1.out; omega)).mono ?_
      rintro e w6 ⟨rfl, hI6, hk6⟩
      have HI6 : Hid (II w6 w.heap.size (w.heap.size + 1) H (adP [one] two) (adH two (adH one [] f) (fewL l1)) py Fy) := hI6.less (fun k hk => .inl hk)
      have HK6 : Hid (Keeps (fun k => k < w.heap.size) w w6) := HK5.out.trans (hk6.mono (fun k hk => .inl (HH.out k hk)))
      have HVf6 : Hid (HV w6 H (.slice fa n fc) f) := HVf5.out.kept (hk6.mono (fun k hk => .inl hk)) (fun _ h => h)
      clear hI6 hk6 HI5 HV5 HK5 HVf5
      go_wp2_with fail
      refine (HFEW.out _ _ w6 HV1.out HK6.out).mono ?_
      rintro e w7 ⟨ka, kc, rfl, hO7, hb7⟩
      have HI7 : Hid (II w7 w.heap.size (w.heap.size + 1) (fun k => H k ∨ (w6.heap.size ≤ k ∧ k < w7.heap.size)) (adP [one] two) (adH two (adH one [] f) (fewL l1)) py Fy) := HI6.out.below hb7
      have HV7 : Hid (HV w7 (fun k => H k ∨ (w6.heap.size ≤ k ∧ k < w7.heap.size)) (.slice ka (fewL l1).length kc) (fewL l1)) := HO.hv hO7 (fun k hk => .inr (World.ownsRow.lt hO7 k hk))
      have HK7 : Hid (Keeps (fun k => k < w.heap.size) w w7) := HK6.out.trans (Keeps.of_below hb7 (fun k hk => Nat.lt_of_lt_of_le hk HK6.out.size))
      have HVf7 : Hid (HV w7 H (.slice fa n fc) f) := HVf6.out.kept (Keeps.of_below hb7 HI6.out.Hb) (fun _ h => h)
      clear hO7 hb7 HI6 HVf6 HK6
      go_wp2_with fail
      refine (HI7.out.symm.add two _ (fewL l1) HV7.out (by decide) (fun y hy => by have := (HOK1.out y hy).2; omega) (by rcases HPY.out with ⟨rfl, _⟩ | rfl <;> decide) (by have := HLE.out; omega)).mono ?_
      rintro e w8 ⟨rfl, hI8, hk8⟩
      have HI8 : Hid (II w8 w.heap.size (w.heap.size + 1) H (adP [one] two) (adH two (adH one [] f) (fewL l1)) (adP py two) (adH two Fy (fewL l1))) := hI8.symm.less (fun k hk => .inl hk)
      have HK8 : Hid (Keeps (fun k => k < w.heap.size) w w8) := HK7.out.trans (hk8.mono (fun k hk => .inl (HH.out k hk)))
      have HVf8 : Hid (HV w8 H (.slice fa n fc) f) := HVf7.out.kept (hk8.mono (fun k hk => .inl hk)) (fun _ h => h)
      clear hI8 hk8 HI7 HV7 HK7 HVf7
      have hzp := zeroPl
      go_wp2
      go_loopw [71] (fun i wq => ∃ (m : Nat), m ≤ n ∧ i = .int .i64 (m : Int) ∧ Below w8.heap.size w8 wq) (fun i _ => n - (intOf i).toNat)
      case atStart => exact ⟨0, Nat.zero_le _, rfl, Below.refl _ _⟩
      case round =>
        obtain ⟨m, hm, rfl, hb⟩ := hrel
        have HB : Hid (Below w8.heap.size w8 wr) := hb
        have hVq := HVf8.out.kept (Keeps.of_below hb HI8.out.Hb) (fun _ h => h)
        clear hb
        by_cases hlt : m < n
        · have hlti : (m : Int) < (n : Int) := by omega
          obtain ⟨y, hy⟩ : ∃ y, f[m]? = some y := ⟨_, List.getElem?_eq_getElem (by rw [← HN.out]; omega)⟩
          obtain ⟨g, o, rfl, -, -, -, e0, e1, e2, e3, e4, e5⟩ := hVq.at hy
          obtain ⟨W2, hW2⟩ : ∃ W2, W2 = wr.alloc (.cells #[.string (mkB y.n), .int .i64 y.m, .int .u32 y.c, .int .i64 y.p, .int .i64 y.s, .int .i64 y.a] 38) := ⟨_, rfl⟩
          have hN2 : W2.heap[wr.heap.size]? = some (.cells #[.string (mkB y.n), .int .i64 y.m, .int .u32 y.c, .int .i64 y.p, .int .i64 y.s, .int .i64 y.a] 38 (0, 0)) := by rw [hW2]; exact heap_alloc_new _ _
          have d0 : W2.cell? ⟨wr.heap.size, 0, none⟩ = some (.string (mkB y.n)) := (cell_of_row _ _ _ _ _ _ hN2).trans rfl
          have hB2 : Below w8.heap.size w8 W2 := by rw [hW2]; exact HB.out.alloc HB.out.size _
          have HB2 : Hid (Below w8.heap.size w8 W2) := hB2
          obtain ⟨m1, m2, hX⟩ := HI8.out.ox
          have hX2 := hX.below hB2
          obtain ⟨p, hp, hpk⟩ : ∃ p, lkA (adH two (adH one [] f) (fewL l1)) y.n = some p ∧ p.k = one := by
            rw [adH_lk, adH_lk, lkA_nil]
            have : (f.find? (fun h => h.n == y.n)).isSome = true := by rw [List.find?_isSome]; exact ⟨y, List.mem_of_getElem? hy, by simp⟩
            obtain ⟨z, hz⟩ := Option.isSome_iff_exists.1 this
            rw [hz]
            exact ⟨⟨one, z⟩, rfl, rfl⟩
          have HFD : Hid (Calls Try.prog 9 #[.pointer (some ⟨w.heap.size, 0, none⟩), .string (mkB y.n)] W2 fun e w' => e = .returned (.tuple #[plV p, .bool true]) ∧ Below W2.heap.size W2 w') := by
            have h9 := find_any y.n W2 hX2 (by have := (HOK0.out y (List.mem_of_getElem? hy)).2; omega)
            rw [hp] at h9
            exact h9
          obtain ⟨pk, ⟨pn, pm, pc, pz, ps, pa⟩⟩ := p
          dsimp only at hpk
          subst hpk
          clear hN2 hB2 hX hX2 hp hVq
          go_upto_region 20 with fail
          rw [← hW2]
          clear hW2 e0 e1 e2 e3 e4 e5
          go_wp2_with fail
          refine HFD.out.mono ?_
          rintro e w9 ⟨rfl, hb9⟩
          have HB9 : Hid (Below w8.heap.size w8 (w9.alloc (.cells #[.string (mkB one), .string (mkB pn), .int .i64 pm, .int .u32 pc, .int .i64 pz, .int .i64 ps, .int .i64 pa] 43))) := (HB2.out.trans (hb9.mono HB2.out.size)).alloc (Nat.le_trans HB2.out.size hb9.size) _
          have ht1 := mkB_toList one
          unfold one at ht1
          unfold plV
          dsimp only
          clear hb9 HFD d0
          unfold one at *
          go_wp2
          go_roundw
          case rel => exact ⟨m + 1, by omega, by go_num, HB9.out⟩
          case measure => simp [intOf]; omega
        · have hlti : ¬ (m : Int) < (n : Int) := by omega
          have HIr : Hid (II wr w.heap.size (w.heap.size + 1) H (adP [one] two) (adH two (adH one [] f) (fewL l1)) (adP py two) (adH two Fy (fewL l1))) := (HI8.out.below HB.out).less (fun k hk => .inl hk)
          have HKr2 : Hid (Keeps (fun k => k < w.heap.size) w wr) := HK8.out.trans (Keeps.of_below HB.out (fun k hk => Nat.lt_of_lt_of_le hk HK8.out.size))
          clear hVq HB
          go_wp2_with fail
          refine (awake17_any _).mono ?_
          rintro e w10 ⟨rfl, hb10⟩
          have HI10 : Hid (II w10 w.heap.size (w.heap.size + 1) H (adP [one] two) (adH two (adH one [] f) (fewL l1)) (adP py two) (adH two Fy (fewL l1))) := (HIr.out.below hb10).less (fun k hk => .inl hk)
          have HK10 : Hid (Keeps (fun k => k < w.heap.size) w w10) := HKr2.out.trans (Keeps.of_below hb10 (fun k hk => Nat.lt_of_lt_of_le hk HKr2.out.size))
          clear hb10 HIr HKr2 HI8 HK8
          by_cases hn0 : n = 0
          · subst hn0
            go_wp2
            go_ret
            exact ⟨rfl, HK10.out.below⟩
          · have hpy1 : py = [one] := by
              rcases HPY.out with ⟨_, hF⟩ | h
              · exfalso
                have hf0 : f ≠ [] := fun e => hn0 (by rw [HN.out, e]; rfl)
                obtain ⟨z, zs, hz⟩ := List.exists_cons_of_ne_nil hf0
                have h9 := HLK.out z.n
                rw [hF, lkA_nil, adH_lk, lkA_nil, hz, List.find?_cons_of_pos (by simp)] at h9
                cases h9
              · exact h
            subst hpy1
            have hnz : (n == 0) = false := by rw [beq_eq_false_iff_ne]; exact hn0
            have hnzi : ((n : Int) == 0) = false := by rw [beq_eq_false_iff_ne]; omega
            have HEQ : Hid (encI (adP [one] two) (adH two Fy (fewL l1)) = encI (adP [one] two) (adH two (adH one [] f) (fewL l1))) :=
              encI_ext HI10.out.kdy.1 HI10.out.kdx.1 (fun q => by rw [adH_lk, adH_lk, HLK.out q])
            have HPX : Hid (POk (adH two (adH one [] f) (fewL l1))) := (POk.add POk.nil (by decide) HOK0.out).add (by decide) HOK1.out
            have HPYY : Hid (POk (adH two Fy (fewL l1))) := HPO.out.add (by decide) HOK1.out
            have HLX : Hid ((adH two (adH one [] f) (fewL l1)).length ≤ 1000) := by have h7 := adH_len two (adH one [] f) (fewL l1); have h8 := HF1.out; unfold Hid; omega
            have HLY : Hid ((adH two Fy (fewL l1)).length ≤ 1000) := by have h7 := adH_len two Fy (fewL l1); have h8 := HLE.out; unfold Hid; omega
            have hps : ∀ p ∈ adP [one] two, p.length ≤ 5 := by decide
            go_wp2_with fail
            obtain ⟨m1, m2, hX⟩ := HI10.out.ox
            refine (encP_any w10 hX HI10.out.kdx.2 hps (by decide) HLX.out HPX.out).mono ?_
            rintro e w11 ⟨rfl, hb11⟩
            have HI11 : Hid (II w11 w.heap.size (w.heap.size + 1) H (adP [one] two) (adH two (adH one [] f) (fewL l1)) (adP [one] two) (adH two Fy (fewL l1))) := (HI10.out.below hb11).less (fun k hk => .inl hk)
            have HK11 : Hid (Keeps (fun k => k < w.heap.size) w w11) := HK10.out.trans (Keeps.of_below hb11 (fun k hk => Nat.lt_of_lt_of_le hk HK10.out.size))
            clear hX hb11 HI10 HK10
            go_wp2_with fail
            obtain ⟨m3, m4, hY⟩ := HI11.out.oy
            refine (encP_any w11 hY HI11.out.kdy.2 hps (by decide) HLY.out HPYY.out).mono ?_
            rw [HEQ.out]
            rintro e w12 ⟨rfl, hb12⟩
            have HB12 : Hid (Below w.heap.size w w12) := (Keeps.trans HK11.out (Keeps.of_below hb12 (fun k hk => Nat.lt_of_lt_of_le hk HK11.out.size))).below
            clear hb12 HI11 HK11 hY
            go_wp2
            go_ret
            exact ⟨by simp, HB12.out⟩
end Go.Proofs.Ytfhlipbgloaflaa
