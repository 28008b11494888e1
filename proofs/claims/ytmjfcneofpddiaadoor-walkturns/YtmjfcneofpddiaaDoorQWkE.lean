/- Contract: walk's misplaced. -/
import Derived.Test.YtmjfcneofpddiaaDoorQWkD
import Derived.Test.YtmjfcneofpddiaaDoorQSetM
import Derived.BigQuiet
import Derived.Deep.QuietTactic
namespace Go.Proofs.YtmjfcneofpddiaaDoor
open Go.RowKit Go.Maps
set_option linter.unusedVariables false
set_option linter.unusedSimpArgs false

/-- The error of fit items beside each other. -/
def mis (fs : List (List UInt8)) : List It → Int
  | [] => 0
  | x :: r => if r.head?.map It.p = some x.p then 8 else if parL x.p ∉ fs then 7 else mis (if x.k = 1 then x.p :: fs else fs) r
theorem zeroIt (w : World) : (zeroValue 25).run Tryd.prog w = .ok (.agg #[.string ⟨#[]⟩, .int .i64 0, .int .i64 0, .int .i64 0, .string ⟨#[]⟩]) w := by kernel_rfl
theorem IV.at {w : World} {a : Option Addr} {n cap : Nat} {l : List It} (h : IV w (.slice a n cap) l) {i : Nat} {x : It} (hi : l[i]? = some x) : ∃ g o, a = some ⟨g, o, none⟩ ∧ g < w.heap.size ∧ n = l.length ∧ n ≤ cap ∧ w.cell? ⟨g, o + i * 5, none⟩ = some (.string (mkB x.p)) ∧ w.cell? ⟨g, o + i * 5 + 1, none⟩ = some (.int .i64 x.k) ∧ w.cell? ⟨g, o + i * 5 + 2, none⟩ = some (.int .i64 x.m) ∧ w.cell? ⟨g, o + i * 5 + 3, none⟩ = some (.int .i64 x.t) ∧ w.cell? ⟨g, o + i * 5 + 4, none⟩ = some (.string (mkB x.d)) := by
  obtain ⟨a', cap', e, hc, _, hf⟩ := h
  injection e with e1 e2 e3
  subst e1 e3
  obtain ⟨g, o, rfl, hg, hh⟩ := hf (fun q => by rw [q] at hi; simp at hi)
  have hj := fun j (hj : j < 5) => itsC_at l i x hi j hj
  have c := fun j (h5 : j < 5) u (hu : (itC x)[j]? = some u) => hh (i * 5 + j) u (by rw [hj j h5]; exact hu)
  refine ⟨g, o, rfl, hg, e2, by rw [e2]; exact hc, c 0 (by decide) _ rfl, ?_, ?_, ?_, ?_⟩
  · rw [Nat.add_assoc]; exact c 1 (by decide) _ rfl
  · rw [Nat.add_assoc]; exact c 2 (by decide) _ rfl
  · rw [Nat.add_assoc]; exact c 3 (by decide) _ rfl
  · rw [Nat.add_assoc]; exact c 4 (by decide) _ rfl
theorem mkB_beq (a b : List UInt8) : ((mkB a).toList == (mkB b).toList) = decide (a = b) := by
  rw [mkB_toList, mkB_toList]
  by_cases h : a = b
  · subst h; simp
  · rw [decide_eq_false h, beq_eq_false_iff_ne]; exact h
theorem SM.upN {w : World} {B n : Nat} {fs : List (List UInt8)} (h : SM w B n fs) : SM w B (n + 1) fs := by
  obtain ⟨D, h1, h2⟩ := h
  exact ⟨D, h1.mono (Nat.le_succ n), h2⟩
theorem parL_len : ∀ l : List UInt8, (parL l).length ≤ l.length
  | [] => Nat.le_refl _
  | c :: t => by
    unfold parL; split
    · have := parL_len t; simp; omega
    · simp
set_option maxRecDepth 100000 in
set_option maxHeartbeats 4000000 in
theorem misplaced_any (v : Value) (l : List It) (w : World) (hR : IV w v l) (hl : l.length ≤ 1000) (hp : ∀ x ∈ l, x.p.length ≤ 1000) :
    Calls Tryd.prog 26 #[v] w fun e w' => e = .returned (.int .i64 (mis [[]] l)) ∧ Below w.heap.size w w' := by
  have HIV : Hid (IV w v l) := hR
  obtain ⟨a0, cap, rfl, _, _⟩ := hR
  have hmm := @run_makeMap Tryd.prog
  obtain ⟨w1, hins, hsm1, hgr1⟩ := (SM.new w).put (by unfold maxLen; omega) [] (by simp)
  rw [show mkB [] = ⟨#[]⟩ from rfl] at hins
  have HB1 : Hid (Below w.heap.size w w1) := ((Below.refl _ w).alloc (Nat.le_refl _) _).grown hgr1 (by simp) (fun j hj => by cases hj; exact Nat.le_refl _)
  have HS1 : Hid (SM w1 w.heap.size 1 [[]]) := hsm1
  have hz1 := hgr1.size
  rw [World.size_alloc] at hz1
  have HP : Hid (∀ x ∈ l, x.p.length ≤ 1000) := hp
  clear hsm1 hgr1 hp
  obtain ⟨n, hn⟩ : ∃ n, n = l.length := ⟨_, rfl⟩
  have HN : Hid (n = l.length) := hn
  rw [← hn] at hl HIV
  rw [← hn]
  clear hn
  go_enter Tryd.func26, Tryd.ntmps26
  go_wp2
  go_loopw [13] (fun i wr => ∃ (k : Nat) (fs : List (List UInt8)), k ≤ n ∧ i = .int .i64 (k : Int) ∧ mis fs (l.drop k) = mis [[]] l ∧ SM wr w.heap.size (k + 1) fs ∧ Below w.heap.size w wr ∧ w.heap.size < wr.heap.size) (fun i _ => n - (intOf i).toNat)
  case atStart => exact ⟨0, [[]], Nat.zero_le _, rfl, rfl, HS1.out, HB1.out, hz1⟩
  case round =>
    obtain ⟨k, fs, hk, rfl, hmis, hsm, hb, hwz⟩ := hrel
    have HSM : Hid (SM wr w.heap.size (k + 1) fs) := hsm
    have HB : Hid (Below w.heap.size w wr) := hb
    have HM : Hid (mis fs (l.drop k) = mis [[]] l) := hmis
    clear hsm hb hmis HB1 HS1 hz1 hins
    by_cases hlt : k < n
    · obtain ⟨x, hx⟩ : ∃ x, l[k]? = some x := ⟨_, List.getElem?_eq_getElem (by rw [← HN.out]; exact hlt)⟩
      have hlti : (k : Int) < (n : Int) := by omega
      have hxp : x.p.length ≤ 1000 := HP.out x (List.mem_of_getElem? hx)
      obtain ⟨g, o, rfl, hg, -, hcap, c0, c1, c2, c3, c4⟩ := (HIV.out.below HB.out).at hx
      have HD : Hid (l.drop k = x :: l.drop (k + 1)) := by
        unfold Hid
        rw [List.drop_eq_getElem_cons (by rw [← HN.out]; exact hlt)]
        congr 1
        rw [List.getElem?_eq_getElem (by rw [← HN.out]; exact hlt)] at hx
        injection hx
      have hzo := zeroIt
      obtain ⟨W2, hW2⟩ : ∃ W2, W2 = wr.alloc (.cells #[.string (mkB x.p), .int .i64 x.k, .int .i64 x.m, .int .i64 x.t, .string (mkB x.d)] 25) := ⟨_, rfl⟩
      have hb2 : Below wr.heap.size wr W2 := by rw [hW2]; exact (Below.refl _ _).alloc (Nat.le_refl _) _
      have hnew : W2.heap[wr.heap.size]? = some (.cells #[.string (mkB x.p), .int .i64 x.k, .int .i64 x.m, .int .i64 x.t, .string (mkB x.d)] 25 (0, 0)) := by rw [hW2]; exact heap_alloc_new wr _
      have HB2 : Hid (Below w.heap.size w W2) := HB.out.trans (hb2.mono HB.out.size)
      have HS2 : Hid (SM W2 w.heap.size (k + 1) fs) := HSM.out.below hb2
      have HX2 : Hid (W2.heap[wr.heap.size]? = some (.cells #[.string (mkB x.p), .int .i64 x.k, .int .i64 x.m, .int .i64 x.t, .string (mkB x.d)] 25 (0, 0))) := hnew
      have b0 : W2.cell? ⟨wr.heap.size, 0, none⟩ = some (.string (mkB x.p)) := by unfold World.cell?; rw [hnew]; rfl
      have hsz2 : wr.heap.size < W2.heap.size := (Array.getElem?_eq_some_iff.1 hnew).1
      have HW2 : Hid (wr.alloc (.cells #[.string (mkB x.p), .int .i64 x.k, .int .i64 x.m, .int .i64 x.t, .string (mkB x.d)] 25) = W2) := hW2.symm
      have hIV2 := (HIV.out.below HB.out).below hb2
      clear hb2 hnew hW2
      have hwk : IntKind.i64.wrap ((k : Int) + 1) = (k : Int) + 1 := by rw [IntKind.wrap_i64]; omega
      by_cases hnx : k + 1 < n
      · obtain ⟨y, hy⟩ : ∃ y, l[k + 1]? = some y := ⟨_, List.getElem?_eq_getElem (by rw [← HN.out]; exact hnx)⟩
        obtain ⟨g', o', e', -, -, -, y0, -⟩ := hIV2.at hy
        cases e'
        have hnxi : (k : Int) + 1 < (n : Int) := by omega
        have hyw : o + (k + 1) * 5 = o + (k + 1) * 5 := rfl
        by_cases hpq : y.p = x.p
        · have hq : ((mkB y.p).toList == (mkB x.p).toList) = true := by rw [mkB_beq, decide_eq_true hpq]
          have HV : Hid (mis [[]] l = 8) := by
            unfold Hid; rw [← HM.out, HD.out, mis, if_pos]
            rw [List.head?_drop, hy, ← hpq]; rfl
          clear hpq hIV2
          go_wp2_with fail
          rw [show wr.alloc (.cells #[.string (mkB x.p), .int .i64 x.k, .int .i64 x.m, .int .i64 x.t, .string (mkB x.d)] 25) = W2 from HW2.out]
          generalize mkB y.p = YP at *
          generalize mkB x.p = XP at *
          go_quiet (fail)
          go_wp2
          go_ret
          rw [HV.out]
          exact ⟨rfl, ⟨HB2.out.os, HB2.out.tape, HB2.out.output, HB2.out.size, HB2.out.block⟩⟩
        · have hq : ((mkB y.p).toList == (mkB x.p).toList) = false := by rw [mkB_beq, decide_eq_false hpq]
          have HH : Hid ((l.drop (k + 1)).head?.map It.p ≠ some x.p) := by
            unfold Hid; rw [List.head?_drop, hy]; intro e; injection e with e; exact hpq e
          clear hpq hIV2
          go_wp2_with fail
          rw [show wr.alloc (.cells #[.string (mkB x.p), .int .i64 x.k, .int .i64 x.m, .int .i64 x.t, .string (mkB x.d)] 25) = W2 from HW2.out]
          generalize mkB y.p = YP at *
          go_quiet (fail)
          have hbd : Below W2.heap.size W2 (W2.drewN nq) := ⟨rfl, rfl, rfl, Nat.le_refl _, fun _ _ => rfl⟩
          have HS3 : Hid (SM (W2.drewN nq) w.heap.size (k + 1) fs) := HS2.out.below hbd
          have HB3 : Hid (Below w.heap.size w (W2.drewN nq)) := HB2.out.trans (hbd.mono HB2.out.size)
          have HMS : Hid (mis [[]] l = if parL x.p ∉ fs then 7 else mis (if x.k = 1 then x.p :: fs else fs) (l.drop (k + 1))) := by
            unfold Hid; rw [← HM.out, HD.out, mis, if_neg HH.out]
          have hpl := parL_len x.p
          clear hbd
          go_wp2_with fail
          refine (parentB_any x.p _ (by omega)).mono ?_
          rintro e w4 ⟨rfl, hb4⟩
          have HS4 : Hid (SM w4 w.heap.size (k + 1) fs) := HS3.out.below hb4
          have HB4 : Hid (Below w.heap.size w w4) := HB3.out.trans (hb4.mono HB3.out.size)
          have hx4 : w4.heap[wr.heap.size]? = _ := (hb4.block wr.heap.size (by simpa using hsz2)).trans HX2.out
          have b04 : w4.cell? ⟨wr.heap.size, 0, none⟩ = some (.string (mkB x.p)) := by unfold World.cell?; rw [hx4]; rfl
          have b14 : w4.cell? ⟨wr.heap.size, 1, none⟩ = some (.int .i64 x.k) := by unfold World.cell?; rw [hx4]; rfl
          have hs4 : wr.heap.size < w4.heap.size := (Array.getElem?_eq_some_iff.1 hx4).1
          have hlook := HS4.out.look (parL x.p) (by omega)
          have hzu := zeroU
          clear hb4 hx4 HB3 HS3 c0 c1 c2 c3 c4 b0
          by_cases hin : parL x.p ∈ fs
          · rw [decide_eq_true hin] at hlook
            have HM2 : Hid (mis (if x.k = 1 then x.p :: fs else fs) (l.drop (k + 1)) = mis [[]] l) := (HMS.out.trans (if_neg (fun h => h hin))).symm
            obtain ⟨W5, hW5⟩ : ∃ W5, W5 = w4.alloc (.cells #[] 79) := ⟨_, rfl⟩
            have hb5 : Below w4.heap.size w4 W5 := by rw [hW5]; exact (Below.refl _ _).alloc (Nat.le_refl _) _
            have HS5 : Hid (SM W5 w.heap.size (k + 1) fs) := HS4.out.below hb5
            have HB5 : Hid (Below w.heap.size w W5) := HB4.out.trans (hb5.mono HB4.out.size)
            have hs5 : w.heap.size < W5.heap.size := Nat.lt_of_lt_of_le (by omega) hb5.size
            obtain ⟨w6, hput, hsm6, hgr6⟩ := HS5.out.put (by unfold maxLen; omega) x.p (by omega)
            have HS6 : Hid (SM w6 w.heap.size (k + 1 + 1) (x.p :: fs)) := hsm6
            have HB6 : Hid (Below w.heap.size w w6) := HB5.out.grown hgr6 (by omega) (fun j hj => by cases hj; exact Nat.le_refl _)
            have hs6 : w.heap.size < w6.heap.size := Nat.lt_of_lt_of_le hs5 hgr6.size
            have HU5 : Hid (SM W5 w.heap.size (k + 1 + 1) fs) := SM.upN HS5.out
            rw [hW5] at hput
            have HW5 : Hid (w4.alloc (.cells #[] 79) = W5) := hW5.symm
            clear hin hb5 hsm6 hgr6 hW5 HMS
            by_cases hk1 : x.k = 1
            · rw [if_pos hk1] at HM2
              generalize mkB (parL x.p) = PP at *
              obtain ⟨kk, hkk⟩ : ∃ kk, kk = x.k := ⟨_, rfl⟩
              rw [← hkk] at hk1
              rw [← hkk, hk1] at b14
              clear hkk hk1
              go_wp2
              go_roundw
              case rel => exact ⟨k + 1, x.p :: fs, by omega, by go_num, HM2.out, HS6.out, HB6.out, hs6⟩
              case measure => simp [intOf]; omega
            · rw [if_neg hk1] at HM2
              have hkb : (x.k == 1) = false := by rw [beq_eq_false_iff_ne]; exact hk1
              generalize mkB (parL x.p) = PP at *
              clear hk1 hput
              generalize x.k = kk at *
              go_wp2
              rw [show w4.alloc (.cells #[] 79) = W5 from HW5.out]
              go_roundw
              case rel => exact ⟨k + 1, fs, by omega, by go_num, HM2.out, HU5.out, HB5.out, hs5⟩
              case measure => simp [intOf]; omega
          · rw [decide_eq_false hin] at hlook
            have HV : Hid (mis [[]] l = 7) := HMS.out.trans (if_pos hin)
            have HB5 : Hid (Below w.heap.size w (w4.alloc (.cells #[] 79))) := HB4.out.alloc HB4.out.size _
            clear hin HMS
            generalize mkB (parL x.p) = PP at *
            go_wp2
            go_ret
            rw [HV.out]
            exact ⟨rfl, HB5.out⟩
      · have hnxi : decide ((k : Int) + 1 < (n : Int)) = false := decide_eq_false (by omega)
        have HH : Hid ((l.drop (k + 1)).head?.map It.p ≠ some x.p) := by
          unfold Hid; rw [List.drop_eq_nil_of_le (by rw [← HN.out]; omega)]; simp
        clear hIV2
        go_wp2_with fail
        rw [show wr.alloc (.cells #[.string (mkB x.p), .int .i64 x.k, .int .i64 x.m, .int .i64 x.t, .string (mkB x.d)] 25) = W2 from HW2.out]
        go_quiet (fail)
        have hbd : Below W2.heap.size W2 (W2.drewN nq) := ⟨rfl, rfl, rfl, Nat.le_refl _, fun _ _ => rfl⟩
        have HS3 : Hid (SM (W2.drewN nq) w.heap.size (k + 1) fs) := HS2.out.below hbd
        have HB3 : Hid (Below w.heap.size w (W2.drewN nq)) := HB2.out.trans (hbd.mono HB2.out.size)
        have HMS : Hid (mis [[]] l = if parL x.p ∉ fs then 7 else mis (if x.k = 1 then x.p :: fs else fs) (l.drop (k + 1))) := by
          unfold Hid; rw [← HM.out, HD.out, mis, if_neg HH.out]
        have hpl := parL_len x.p
        clear hbd
        go_wp2_with fail
        refine (parentB_any x.p _ (by omega)).mono ?_
        rintro e w4 ⟨rfl, hb4⟩
        have HS4 : Hid (SM w4 w.heap.size (k + 1) fs) := HS3.out.below hb4
        have HB4 : Hid (Below w.heap.size w w4) := HB3.out.trans (hb4.mono HB3.out.size)
        have hx4 : w4.heap[wr.heap.size]? = _ := (hb4.block wr.heap.size (by simpa using hsz2)).trans HX2.out
        have b04 : w4.cell? ⟨wr.heap.size, 0, none⟩ = some (.string (mkB x.p)) := by unfold World.cell?; rw [hx4]; rfl
        have b14 : w4.cell? ⟨wr.heap.size, 1, none⟩ = some (.int .i64 x.k) := by unfold World.cell?; rw [hx4]; rfl
        have hs4 : wr.heap.size < w4.heap.size := (Array.getElem?_eq_some_iff.1 hx4).1
        have hlook := HS4.out.look (parL x.p) (by omega)
        have hzu := zeroU
        clear hb4 hx4 HB3 HS3 c0 c1 c2 c3 c4 b0
        by_cases hin : parL x.p ∈ fs
        · rw [decide_eq_true hin] at hlook
          have HM2 : Hid (mis (if x.k = 1 then x.p :: fs else fs) (l.drop (k + 1)) = mis [[]] l) := (HMS.out.trans (if_neg (fun h => h hin))).symm
          obtain ⟨W5, hW5⟩ : ∃ W5, W5 = w4.alloc (.cells #[] 79) := ⟨_, rfl⟩
          have hb5 : Below w4.heap.size w4 W5 := by rw [hW5]; exact (Below.refl _ _).alloc (Nat.le_refl _) _
          have HS5 : Hid (SM W5 w.heap.size (k + 1) fs) := HS4.out.below hb5
          have HB5 : Hid (Below w.heap.size w W5) := HB4.out.trans (hb5.mono HB4.out.size)
          have hs5 : w.heap.size < W5.heap.size := Nat.lt_of_lt_of_le (by omega) hb5.size
          obtain ⟨w6, hput, hsm6, hgr6⟩ := HS5.out.put (by unfold maxLen; omega) x.p (by omega)
          have HS6 : Hid (SM w6 w.heap.size (k + 1 + 1) (x.p :: fs)) := hsm6
          have HB6 : Hid (Below w.heap.size w w6) := HB5.out.grown hgr6 (by omega) (fun j hj => by cases hj; exact Nat.le_refl _)
          have hs6 : w.heap.size < w6.heap.size := Nat.lt_of_lt_of_le hs5 hgr6.size
          have HU5 : Hid (SM W5 w.heap.size (k + 1 + 1) fs) := SM.upN HS5.out
          rw [hW5] at hput
          have HW5 : Hid (w4.alloc (.cells #[] 79) = W5) := hW5.symm
          clear hin hb5 hsm6 hgr6 hW5 HMS
          by_cases hk1 : x.k = 1
          · rw [if_pos hk1] at HM2
            generalize mkB (parL x.p) = PP at *
            obtain ⟨kk, hkk⟩ : ∃ kk, kk = x.k := ⟨_, rfl⟩
            rw [← hkk] at hk1
            rw [← hkk, hk1] at b14
            clear hkk hk1
            go_wp2
            go_roundw
            case rel => exact ⟨k + 1, x.p :: fs, by omega, by go_num, HM2.out, HS6.out, HB6.out, hs6⟩
            case measure => simp [intOf]; omega
          · rw [if_neg hk1] at HM2
            have hkb : (x.k == 1) = false := by rw [beq_eq_false_iff_ne]; exact hk1
            generalize mkB (parL x.p) = PP at *
            clear hk1 hput
            generalize x.k = kk at *
            go_wp2
            rw [show w4.alloc (.cells #[] 79) = W5 from HW5.out]
            go_roundw
            case rel => exact ⟨k + 1, fs, by omega, by go_num, HM2.out, HU5.out, HB5.out, hs5⟩
            case measure => simp [intOf]; omega
        · rw [decide_eq_false hin] at hlook
          have HV : Hid (mis [[]] l = 7) := HMS.out.trans (if_pos hin)
          have HB5 : Hid (Below w.heap.size w (w4.alloc (.cells #[] 79))) := HB4.out.alloc HB4.out.size _
          clear hin HMS
          generalize mkB (parL x.p) = PP at *
          go_wp2
          go_ret
          rw [HV.out]
          exact ⟨rfl, HB5.out⟩
    · have hlti : ¬ (k : Int) < (n : Int) := by omega
      have HV : Hid (mis [[]] l = 0) := by unfold Hid; rw [← HM.out, List.drop_eq_nil_of_le (by rw [← HN.out]; omega)]; rfl
      go_wp2
      go_ret
      rw [HV.out]
      exact ⟨rfl, HB.out⟩
end Go.Proofs.YtmjfcneofpddiaaDoor
