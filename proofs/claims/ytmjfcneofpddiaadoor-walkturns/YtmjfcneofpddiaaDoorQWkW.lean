/- Contract: walk.Check. Contract: walk.Walk. -/
import Derived.Test.YtmjfcneofpddiaaDoorQWkE
namespace Go.Proofs.YtmjfcneofpddiaaDoor
open Go.RowKit Go.Maps
set_option linter.unusedVariables false
set_option linter.unusedSimpArgs false

def fstFit : List It → Int
  | [] => 0
  | x :: r => if fitI x = 0 then fstFit r else fitI x
theorem fstFit_zero : ∀ l : List It, fstFit l = 0 ↔ ∀ x ∈ l, fitI x = 0
  | [] => by simp [fstFit]
  | x :: r => by
    unfold fstFit
    by_cases h : fitI x = 0
    · rw [if_pos h, fstFit_zero r]; simp [h]
    · rw [if_neg h]; simp [h]
/-- What Check answers. -/
def ChkP (l : List It) (z : Int) : Prop :=
  (200 < l.length ∧ z = 2) ∨ (l.length ≤ 200 ∧ fstFit l ≠ 0 ∧ z = fstFit l) ∨ (l.length ≤ 200 ∧ (∀ x ∈ l, fitI x = 0) ∧ ∃ l', l'.Perm l ∧ Srt l' ∧ z = mis [[]] l')
/-- Its texts have lengths that an int holds. -/
def ItB (l : List It) : Prop := ∀ x ∈ l, x.p.length ≤ 9223372036854775807 ∧ x.d.length ≤ 9223372036854775807
set_option maxRecDepth 100000 in
set_option maxHeartbeats 4000000 in
theorem check_any (v : Value) (l : List It) (w : World) (hR : IV w v l) (hB : ItB l) (hL : Lay11 w) (hl63 : l.length ≤ 9223372036854775807) :
    Calls Tryd.prog 7 #[v] w fun e w' => ∃ z, e = .returned (.int .i64 z) ∧ ChkP l z ∧ Below w.heap.size w w' := by
  have HIV : Hid (IV w v l) := hR
  obtain ⟨a0, cap, rfl, -, -, -⟩ := hR
  have HIB : Hid (ItB l) := hB
  have HLy : Hid (Lay11 w) := hL
  clear hB hL
  obtain ⟨n, hn⟩ : ∃ n, n = l.length := ⟨_, rfl⟩
  have HN : Hid (n = l.length) := hn
  rw [← hn] at hl63 HIV
  rw [← hn]
  clear hn
  by_cases hbig : 200 < n
  · have hbi : (200 : Int) < (n : Int) := by omega
    have HP : Hid (ChkP l 2) := .inl ⟨by rw [← HN.out]; exact hbig, rfl⟩
    go_enter Tryd.func7, Tryd.ntmps7
    go_wp2
    go_ret
    exact ⟨2, rfl, HP.out, Below.refl _ _⟩
  have hbi : ¬ (200 : Int) < (n : Int) := by omega
  clear hl63
  go_enter Tryd.func7, Tryd.ntmps7
  go_wp2
  go_loopw [11] (fun i wr => ∃ (k : Nat), k ≤ n ∧ i = .int .i64 (k : Int) ∧ fstFit (l.drop k) = fstFit l ∧ Below w.heap.size w wr) (fun i _ => n - (intOf i).toNat)
  case atStart => exact ⟨0, Nat.zero_le _, rfl, rfl, Below.refl _ _⟩
  case round =>
    obtain ⟨k, hk, rfl, hff, hb⟩ := hrel
    have HB : Hid (Below w.heap.size w wr) := hb
    have HF : Hid (fstFit (l.drop k) = fstFit l) := hff
    clear hb hff
    by_cases hlt : k < n
    · obtain ⟨x, hx⟩ : ∃ x, l[k]? = some x := ⟨_, List.getElem?_eq_getElem (by rw [← HN.out]; exact hlt)⟩
      have hlti : (k : Int) < (n : Int) := by omega
      obtain ⟨g, o, rfl, hg, -, hcap, c0, c1, c2, c3, c4⟩ := (HIV.out.below HB.out).at hx
      have HD : Hid (l.drop k = x :: l.drop (k + 1)) := by
        unfold Hid
        rw [List.drop_eq_getElem_cons (by rw [← HN.out]; exact hlt)]
        congr 1
        rw [List.getElem?_eq_getElem (by rw [← HN.out]; exact hlt)] at hx
        injection hx
      have hzo := zeroIt
      obtain ⟨hxp, hxd⟩ := HIB.out x (List.mem_of_getElem? hx)
      obtain ⟨W2, hW2⟩ : ∃ W2, W2 = wr.alloc (.cells #[.string (mkB x.p), .int .i64 x.k, .int .i64 x.m, .int .i64 x.t, .string (mkB x.d)] 25) := ⟨_, rfl⟩
      have HB2 : Hid (Below w.heap.size w W2) := by unfold Hid; rw [hW2]; exact HB.out.alloc HB.out.size _
      have HU : Hid (Calls Tryd.prog 25 #[.agg #[.string (mkB x.p), .int .i64 x.k, .int .i64 x.m, .int .i64 x.t, .string (mkB x.d)]] W2 _) := unfit_any x W2 hxp hxd (HLy.out.below HB2.out)
      have HW2 : Hid (wr.alloc (.cells #[.string (mkB x.p), .int .i64 x.k, .int .i64 x.m, .int .i64 x.t, .string (mkB x.d)] 25) = W2) := hW2.symm
      clear hW2 hxp hxd
      go_wp2_with fail
      rw [show wr.alloc (.cells #[.string (mkB x.p), .int .i64 x.k, .int .i64 x.m, .int .i64 x.t, .string (mkB x.d)] 25) = W2 from HW2.out]
      refine HU.out.mono ?_
      rintro e w3 ⟨rfl, hb3⟩
      have HB3 : Hid (Below w.heap.size w w3) := HB2.out.trans (hb3.mono HB2.out.size)
      clear hb3 HU
      by_cases hf : fitI x = 0
      · have HF2 : Hid (fstFit (l.drop (k + 1)) = fstFit l) := by
          unfold Hid; rw [← HF.out, HD.out, fstFit, if_pos hf]
        rw [hf]
        clear hf
        go_wp2
        go_roundw
        case rel => exact ⟨k + 1, by omega, by go_num, HF2.out, HB3.out⟩
        case measure => simp [intOf]; omega
      · have hv : fstFit l = fitI x := by rw [← HF.out, HD.out, fstFit, if_neg hf]
        have HP : Hid (ChkP l (fitI x)) := .inr (.inl ⟨by rw [← HN.out]; omega, by rw [hv]; exact hf, hv.symm⟩)
        have z0 : (fitI x == 0) = false := by rw [beq_eq_false_iff_ne]; exact hf
        have z1 : (fitI x != 0) = true := by rw [bne_iff_ne]; exact hf
        clear hf hv
        generalize fitI x = z at *
        go_wp2
        go_ret
        exact ⟨z, rfl, HP.out, HB3.out⟩
    · have hlti : ¬ (k : Int) < (n : Int) := by omega
      have hall : ∀ x ∈ l, fitI x = 0 := (fstFit_zero l).1 (by rw [← HF.out, List.drop_eq_nil_of_le (by rw [← HN.out]; omega)]; rfl)
      have HA : Hid (∀ x ∈ l, fitI x = 0) := hall
      clear hall
      have HS : Hid (Calls Tryd.prog _ _ _ _) := sort_any (.slice a0 n cap) l wr (HIV.out.below HB.out) (by rw [← HN.out]; omega) (fun x hx => by have := (fit_len (HA.out x hx)).1; omega) (HLy.out.below HB.out).max
      go_wp2_with fail
      refine HS.out.mono ?_
      rintro e w2 ⟨v', l', rfl, q1, q2, q3, q4⟩
      have HB2 : Hid (Below w.heap.size w w2) := HB.out.trans (q4.mono HB.out.size)
      have HQ : Hid (l'.Perm l ∧ Srt l') := ⟨q1, q2⟩
      have hln : Hid (l'.length = n) := by unfold Hid; rw [q1.length_eq]; exact HN.out.symm
      have HMI : Hid (Calls Tryd.prog _ _ _ _) := misplaced_any v' l' w2 q3 (by rw [hln.out]; omega) (fun x hx => by have := (fit_len (HA.out x (q1.mem_iff.1 hx))).1; omega)
      obtain ⟨a', c', rfl, -, -, -⟩ := q3
      clear q1 q2 q4 HS
      go_wp2_with fail
      refine HMI.out.mono ?_
      rintro e w3 ⟨rfl, hb3⟩
      have HB3 : Hid (Below w.heap.size w w3) := HB2.out.trans (hb3.mono HB2.out.size)
      have HP : Hid (ChkP l (mis [[]] l')) := .inr (.inr ⟨by rw [← HN.out]; omega, HA.out, l', HQ.out.1, HQ.out.2, rfl⟩)
      clear hb3 HMI
      generalize mis [[]] l' = z at *
      go_wp2
      go_ret
      exact ⟨z, rfl, HP.out, HB3.out⟩
end Go.Proofs.YtmjfcneofpddiaaDoor
namespace Go.Proofs.YtmjfcneofpddiaaDoor
open Go.RowKit Go.Maps
set_option linter.unusedVariables false
set_option linter.unusedSimpArgs false

/-- What a tree's items are. -/
structure Tree (l : List It) : Prop where
  len : l.length ≤ 200
  fit : ∀ x ∈ l, fitI x = 0
/-- What Walk answers. -/
def WalkP (w w' : World) (l : List It) (e : Ending) : Prop :=
  (∃ z, z ≠ 0 ∧ ChkP l z ∧ e = .returned (.tuple #[.slice none 0 0, .int .i64 z])) ∨
  (ChkP l 0 ∧ ∃ v' l', e = .returned (.tuple #[v', .int .i64 0]) ∧ l'.Perm l ∧ Srt l' ∧ IV w' v' l' ∧ NewV w.heap.size v')
theorem ChkP.tree {l : List It} (h : ChkP l 0) : Tree l := by
  rcases h with ⟨_, h⟩ | ⟨_, h1, h2⟩ | ⟨h1, h2, _⟩
  · exact absurd h (by decide)
  · exact absurd h2.symm h1
  · exact ⟨h1, h2⟩
theorem ChkP.mis {l : List It} (h : ChkP l 0) : ∃ l', l'.Perm l ∧ Srt l' ∧ mis [[]] l' = 0 := by
  rcases h with ⟨_, h⟩ | ⟨_, h1, h2⟩ | ⟨_, _, l', h1, h2, h3⟩
  · exact absurd h (by decide)
  · exact absurd h2.symm h1
  · exact ⟨l', h1, h2, h3.symm⟩
set_option maxRecDepth 100000 in
set_option maxHeartbeats 4000000 in
theorem walk_any (v : Value) (l : List It) (w : World) (hR : IV w v l) (hB : ItB l) (hL : Lay11 w) (hl63 : l.length ≤ 9223372036854775807) :
    Calls Tryd.prog 11 #[v] w fun e w' => WalkP w w' l e ∧ Below w.heap.size w w' := by
  have HC : Hid (Calls Tryd.prog _ _ _ _) := check_any v l w hR hB hL hl63
  have HS : Hid (∀ W, Below w.heap.size w W → ChkP l 0 → Calls Tryd.prog 27 #[v] W fun e w' => ∃ v' l', e = .returned v' ∧ l'.Perm l ∧ Srt l' ∧ IV w' v' l' ∧ RowKit.Below W.heap.size W w' ∧ NewV W.heap.size v') := by
    intro W hb hc
    have ht := hc.tree
    exact sort_new v l W (hR.below hb) (by have := ht.len; omega) (fun x hx => by have := (fit_len (ht.fit x hx)).1; omega) (hL.below hb).max
  clear hR hB hL hl63
  go_enter Tryd.func11, Tryd.ntmps11
  go_wp2_with fail
  refine HC.out.mono ?_
  rintro e w1 ⟨z, rfl, hz, hb⟩
  have HZ : Hid (ChkP l z) := hz
  have HB : Hid (Below w.heap.size w w1) := hb
  clear hz hb HC
  by_cases h0 : z = 0
  · subst h0
    have HS1 : Hid (Calls Tryd.prog _ _ _ _) := HS.out w1 HB.out HZ.out
    clear HS
    go_wp2_with fail
    refine HS1.out.mono ?_
    rintro e w2 ⟨v', l', rfl, h1, h2, h3, h4, h5⟩
    have HQ : Hid (l'.Perm l ∧ Srt l' ∧ IV w2 v' l' ∧ RowKit.Below w1.heap.size w1 w2 ∧ NewV w1.heap.size v') := ⟨h1, h2, h3, h4, h5⟩
    obtain ⟨a', c', rfl, -, -, -⟩ := h3
    clear h1 h2 h4 h5 HS1
    go_wp2
    go_ret2
    obtain ⟨h1, h2, h3, h4, h5⟩ := HQ.out
    exact ⟨.inr ⟨HZ.out, _, l', rfl, h1, h2, h3, fun g o n c e => Nat.le_trans HB.out.size (h5 g o n c e)⟩, HB.out.trans (h4.mono HB.out.size)⟩
  · have hn : (z == 0) = false := beq_eq_false_iff_ne.2 h0
    have HE : Hid (z ≠ 0) := h0
    clear HS h0
    go_wp2
    go_ret2
    exact ⟨.inl ⟨z, HE.out, HZ.out, rfl⟩, HB.out⟩
end Go.Proofs.YtmjfcneofpddiaaDoor
