/- Contract of the document's Steps. -/
import Derived.Test.YtibnkpfginffhaaDSt
namespace Go.Proofs.Ytibnkpfginffhaa
open Go.RowKit
set_option linter.unusedVariables false

/-- The length at a place. -/
def gd (zs : List Int) (i : Nat) : Int := zs.getD i 0
theorem gd_eq (zs : List Int) (i : Nat) : gd zs i = zs.getD i 0 := rfl
theorem stpAt_gd (zs : List Int) (i : Nat) : stpAt zs i = if gd zs i = 0 ∧ 11 ≤ eqs zs i then ⟨18, (min (eqs zs i) 138 : Nat) - 11⟩
  else if gd zs i = 0 ∧ 3 ≤ eqs zs i then ⟨17, (min (eqs zs i) 10 : Nat) - 3⟩
  else if 0 < i ∧ gd zs (i - 1) = gd zs i ∧ 3 ≤ eqs zs i then ⟨16, (min (eqs zs i) 6 : Nat) - 3⟩
  else ⟨gd zs i, 0⟩ := rfl
theorem plcAt_gd (zs : List Int) (i : Nat) : plcAt zs i = if gd zs i = 0 ∧ 11 ≤ eqs zs i then min (eqs zs i) 138
  else if gd zs i = 0 ∧ 3 ≤ eqs zs i then min (eqs zs i) 10
  else if 0 < i ∧ gd zs (i - 1) = gd zs i ∧ 3 ≤ eqs zs i then min (eqs zs i) 6
  else 1 := rfl
theorem Try.infoRS : (Try.prog.info? 61).map (fun i => (i.zero, i.size, i.bytes)) = some (some (.agg #[.int .i64 0, .int .i64 0]), 2, 16) := by kernel_rfl
set_option maxRecDepth 100000 in
set_option maxHeartbeats 4000000 in
theorem rsteps_any (g o cap : Nat) (zs : List Int) (w : World) (hg : g < w.heap.size) (hc : ∀ i, i < zs.length → w.cell? ⟨g, o + i, none⟩ = some (.int .i64 (gd zs i))) (hl : zs.length ≤ 1000000) :
    Calls Try.prog 23 #[.slice (some ⟨g, o, none⟩) zs.length cap] w fun e w' => ∃ v, e = .returned v ∧ w'.ownsRow w.heap.size 61 2 v (stpsF zs).length (stc (stpsF zs)) ∧ Below w.heap.size w w' := by
  obtain ⟨i0, hi, hz0, hz1, hz2⟩ := info_parts Try.infoRS
  have HC : Hid (∀ W i, Below w.heap.size w W → i < zs.length → W.cell? ⟨g, o + i, none⟩ = some (.int .i64 (gd zs i))) := fun W i hb hj => by rw [hb.cell (p := ⟨g, o + i, none⟩) hg]; exact hc i hj
  have HO0 : Hid ((w.alloc (.cells #[] 61)).ownsRow w.heap.size 61 2 (.slice (some ⟨w.heap.size, 0, none⟩) 0 0) 0 []) := World.ownsRow_made (base := w.heap.size) (e := 61) (size := 2) w #[] 0 (Nat.le_refl _) (by decide) rfl
  have HB0 : Hid (Below w.heap.size w (w.alloc (.cells #[] 61))) := (Below.refl _ w).alloc (Nat.le_refl _) _
  clear hc
  go_enter Try.func23, Try.ntmps23
  go_wp2
  generalize World.alloc w _ = W0 at *
  go_loopw [3, 4] (fun v a wr => ∃ k : Nat, a = .int .i64 ((stK zs k).2 : Int) ∧ wr.ownsRow w.heap.size 61 2 v (stK zs k).1.length (stc (stK zs k).1) ∧ Below w.heap.size w wr) (fun _ a _ => zs.length - (intOf a).toNat)
  case atStart => exact ⟨0, rfl, HO0.out, HB0.out⟩
  case round =>
    clear HO0 HB0
    obtain ⟨k, rfl, hO, hB⟩ := hrel
    obtain ⟨f1, f2, f3⟩ := stK_far zs k
    by_cases hlt : (stK zs k).2 < zs.length
    · have HK : Hid (stK zs (k + 1) = _) := stK_step hlt
      have hp1 := plcAt_pos zs (stK zs k).2
      have hp2 := plcAt_le hlt
      generalize (stK zs k).2 = i at *
      generalize (stK zs k).1 = acc at *
      have HS : Hid (stpAt zs i = _) := stpAt_gd zs i
      have HP : Hid (plcAt zs i = _) := plcAt_gd zs i
      have hE1 := eqs_pos hlt
      have hE2 := eqs_le zs i
      have hii : (i : Int) < (zs.length : Int) := by omega
      have hi0 : (0 : Int) ≤ (i : Int) := by omega
      have hsz := hB.size
      have ci := HC.out wr i hB hlt
      have HCN : Hid (∀ j, j < zs.length → wr.cell? ⟨g, o + j, none⟩ = some (.int .i64 (gd zs j))) := fun j hj => HC.out wr j hB hj
      have HGE0 : Hid (∀ n, i + n ≤ zs.length → (∀ j, j < n → gd zs (i + j) = gd zs i) → n ≤ eqs zs i) := fun n h1 h2 => eqs_ge h1 h2
      have HST0 : Hid (∀ n, i + n < zs.length → gd zs (i + n) ≠ gd zs i → eqs zs i ≤ n) := fun n h1 h2 => eqs_stop h1 h2
      have HCP0 : Hid (0 < i → wr.cell? ⟨g, o + (i - 1), none⟩ = some (.int .i64 (gd zs (i - 1)))) := fun h => HCN.out (i - 1) (by omega)
      clear HC f2
      generalize stpAt zs i = S at *
      generalize plcAt zs i = P at *
      generalize eqs zs i = E at *
      generalize gd zs (i - 1) = y at *
      generalize gd zs i = z at *
      go_wp2
      go_loopw [5] (fun x wx => ∃ n : Nat, x = .int .i64 (n : Int) ∧ (i + n ≤ zs.length ∧ ∀ j, j < n → gd zs (i + j) = z) ∧ ∃ m, wx = wr.drewN m) (fun x _ => zs.length - (intOf x).toNat)
      case atStart => exact ⟨0, rfl, ⟨by omega, fun j hj => by omega⟩, 0, rfl⟩
      case round =>
        rename_i wx hrel
        obtain ⟨n, rfl, ⟨hn1, hn2⟩, m, rfl⟩ := hrel
        have HN2 : Hid (∀ j, j < n → gd zs (i + j) = z) := hn2
        have HGE : Hid (n ≤ E) := HGE0.out n hn1 hn2
        clear hn2
        by_cases hlt2 : i + n < zs.length
        · have hg1 : decide ((i : Int) + (n : Int) < (zs.length : Int)) = true := by simp; omega
          have q1 : (0 : Int) ≤ (i : Int) + (n : Int) := by omega
          have q2 : (i : Int) + (n : Int) < (zs.length : Int) := by omega
          have cn := HCN.out (i + n) hlt2
          by_cases he : gd zs (i + n) = z
          · have hq : (gd zs (i + n) == z) = true := by rw [int_eq]; simpa using he
            have HSN : Hid (∀ j, j < n + 1 → gd zs (i + j) = z) := fun j hj => by
              rcases Nat.lt_or_ge j n with h | h
              · exact HN2.out j h
              · obtain rfl : j = n := by omega
                exact he
            clear he
            go_wp2
            go_quiet (fail)
            go_wp2
            go_roundw
            case rel => exact ⟨n + 1, by go_num, ⟨by omega, HSN.out⟩, m + nq, rfl⟩
            case measure => simp [intOf]; omega
          · have hq : (gd zs (i + n) == z) = false := by rw [int_eq]; simpa using he
            have hEN : E = n := by
              have := HST0.out n hlt2 he
              have := HGE.out
              omega
            clear he HN2 HGE
            go_wp2
            go_quiet (fail)
            have HO1 : Hid (((wr.drewN m).drewN nq).ownsRow w.heap.size 61 2 _ acc.length (stc acc)) := hO
            have HB1 : Hid (Below w.heap.size w ((wr.drewN m).drewN nq)) := below_drewN' (below_drewN' hB m) nq
            have c1 : ((wr.drewN m).drewN nq).cell? ⟨g, o + i, none⟩ = some (.int .i64 z) := ci
            have HCP : Hid (0 < i → ((wr.drewN m).drewN nq).cell? ⟨g, o + (i - 1), none⟩ = some (.int .i64 y)) := HCP0.out
            obtain rfl := hEN.symm
            clear hO hB ci HCN HGE0 HST0 HCP0
            generalize (wr.drewN m).drewN nq = W1 at *
            by_cases hA : z = 0 ∧ 11 ≤ n
            · rw [if_pos hA] at HS HP
              obtain ⟨rfl, h11⟩ := hA
              have hm : (11 : Int) ≤ (n : Int) := by omega
              clear HCP
              by_cases hbig : 138 < n
              · have e1 : min n 138 = 138 := by omega
                rw [e1] at HS HP
                replace HS : Hid (S = ⟨18, 127⟩) := HS.out
                have hbi : (138 : Int) < (n : Int) := by omega
                clear e1
                have HN2 : Hid _ := two_new W1 (.int .i64 18) (.int .i64 127) 61
                have HOX : Hid (W1.ownsRow w.heap.size 61 2 _ acc.length (stc acc)) := HO1.out
                have HBX : Hid (Below w.heap.size w W1) := HB1.out
                have hszX : w.heap.size ≤ W1.heap.size := HBX.out.size
                clear HO1 HB1
                skip
                go_wp2_with (at_builtin; refine wpList_append_own _ rfl _ _ 58 rfl w.heap.size 61 i0 (.agg #[.int .i64 0, .int .i64 0]) 2 16 Try.underlying58 hi hz0 hz1 hz2 rfl (by decide) _ _ _ rfl (HOX.out.alloc _) ⟨W1.heap.size, 0, none⟩ 1 1 [.int .i64 18, .int .i64 127] rfl rfl HN2.out (two_one _ _) ?c3 ?c4 ?c5 ?_)
                case c3 => unfold maxLen; omega
                case c4 => omega
                case c5 => first | omega | (rw [World.size_alloc]; omega)
                intro v8 w8 hown hg8 _
                have HO8 : Hid (w8.ownsRow w.heap.size 61 2 v8 (acc.length + 1) (stc (acc ++ [S]))) := by unfold Hid; rw [stc_snoc, HS.out]; exact hown
                have HB8 : Hid (Below w.heap.size w w8) := (HBX.out.alloc hszX _).grown hg8 (by rw [World.size_alloc]; omega) (fun q hq => (HOX.out.lt q hq).1)
                clear hown hg8 HOX HBX HN2
                go_wp2
                go_roundw
                case rel => exact ⟨k + 1, by rw [HK.out, HP.out]; go_num, by rw [HK.out, List.length_append]; exact HO8.out, HB8.out⟩
                case measure => simp [intOf]; omega
              · have e1 : min n 138 = n := by omega
                rw [e1] at HS HP
                have hbi : ¬ (138 : Int) < (n : Int) := by omega
                clear e1
                have HN2 : Hid _ := two_new W1 (.int .i64 18) (.int .i64 ((n : Int) - 11)) 61
                have HOX : Hid (W1.ownsRow w.heap.size 61 2 _ acc.length (stc acc)) := HO1.out
                have HBX : Hid (Below w.heap.size w W1) := HB1.out
                have hszX : w.heap.size ≤ W1.heap.size := HBX.out.size
                clear HO1 HB1
                skip
                go_wp2_with (at_builtin; refine wpList_append_own _ rfl _ _ 58 rfl w.heap.size 61 i0 (.agg #[.int .i64 0, .int .i64 0]) 2 16 Try.underlying58 hi hz0 hz1 hz2 rfl (by decide) _ _ _ rfl (HOX.out.alloc _) ⟨W1.heap.size, 0, none⟩ 1 1 [.int .i64 18, .int .i64 ((n : Int) - 11)] rfl rfl HN2.out (two_one _ _) ?c3 ?c4 ?c5 ?_)
                case c3 => unfold maxLen; omega
                case c4 => omega
                case c5 => first | omega | (rw [World.size_alloc]; omega)
                intro v8 w8 hown hg8 _
                have HO8 : Hid (w8.ownsRow w.heap.size 61 2 v8 (acc.length + 1) (stc (acc ++ [S]))) := by unfold Hid; rw [stc_snoc, HS.out]; exact hown
                have HB8 : Hid (Below w.heap.size w w8) := (HBX.out.alloc hszX _).grown hg8 (by rw [World.size_alloc]; omega) (fun q hq => (HOX.out.lt q hq).1)
                clear hown hg8 HOX HBX HN2
                go_wp2
                go_roundw
                case rel => exact ⟨k + 1, by rw [HK.out, HP.out]; go_num, by rw [HK.out, List.length_append]; exact HO8.out, HB8.out⟩
                case measure => simp [intOf]; omega
            · rw [if_neg hA] at HS HP
              by_cases hB3 : z = 0 ∧ 3 ≤ n
              · rw [if_pos hB3] at HS HP
                obtain ⟨rfl, h3⟩ := hB3
                have hm1 : ¬ (11 : Int) ≤ (n : Int) := by omega
                have hm : (3 : Int) ≤ (n : Int) := by omega
                clear HCP
                by_cases hbig : 10 < n
                · exact absurd hbig (by omega)
                · have e1 : min n 10 = n := by omega
                  rw [e1] at HS HP
                  have hbi : ¬ (10 : Int) < (n : Int) := by omega
                  clear e1
                  have HN2 : Hid _ := two_new W1 (.int .i64 17) (.int .i64 ((n : Int) - 3)) 61
                  have HOX : Hid (W1.ownsRow w.heap.size 61 2 _ acc.length (stc acc)) := HO1.out
                  have HBX : Hid (Below w.heap.size w W1) := HB1.out
                  have hszX : w.heap.size ≤ W1.heap.size := HBX.out.size
                  clear HO1 HB1
                  skip
                  go_wp2_with (at_builtin; refine wpList_append_own _ rfl _ _ 58 rfl w.heap.size 61 i0 (.agg #[.int .i64 0, .int .i64 0]) 2 16 Try.underlying58 hi hz0 hz1 hz2 rfl (by decide) _ _ _ rfl (HOX.out.alloc _) ⟨W1.heap.size, 0, none⟩ 1 1 [.int .i64 17, .int .i64 ((n : Int) - 3)] rfl rfl HN2.out (two_one _ _) ?c3 ?c4 ?c5 ?_)
                  case c3 => unfold maxLen; omega
                  case c4 => omega
                  case c5 => first | omega | (rw [World.size_alloc]; omega)
                  intro v8 w8 hown hg8 _
                  have HO8 : Hid (w8.ownsRow w.heap.size 61 2 v8 (acc.length + 1) (stc (acc ++ [S]))) := by unfold Hid; rw [stc_snoc, HS.out]; exact hown
                  have HB8 : Hid (Below w.heap.size w w8) := (HBX.out.alloc hszX _).grown hg8 (by rw [World.size_alloc]; omega) (fun q hq => (HOX.out.lt q hq).1)
                  clear hown hg8 HOX HBX HN2
                  go_wp2
                  go_roundw
                  case rel => exact ⟨k + 1, by rw [HK.out, HP.out]; go_num, by rw [HK.out, List.length_append]; exact HO8.out, HB8.out⟩
                  case measure => simp [intOf]; omega
              · rw [if_neg hB3] at HS HP
                have hb1 : ((z == 0) = false) ∨ (z = 0 ∧ ¬ (11 : Int) ≤ (n : Int) ∧ ¬ (3 : Int) ≤ (n : Int)) := by
                  by_cases h : z = 0
                  · exact .inr ⟨h, by omega, by omega⟩
                  · exact .inl (by simpa using h)
                by_cases hi3 : 0 < i
                · have hci := HCP.out hi3
                  obtain ⟨j, rfl⟩ : ∃ j, i = j + 1 := ⟨i - 1, by omega⟩
                  rw [Nat.add_sub_cancel] at hci
                  have hj1 : (0 : Int) ≤ (j : Int) := by omega
                  have hj2 : (j : Int) < (zs.length : Int) := by omega
                  clear HCP
                  by_cases hyz : y = z
                  · subst hyz
                    by_cases h3 : 3 ≤ n
                    · rw [if_pos ⟨hi3, rfl, h3⟩] at HS HP
                      have hy0 : (y == 0) = false := by
                        rcases hb1 with h | h
                        · exact h
                        · omega
                      have hm : (3 : Int) ≤ (n : Int) := by omega
                      have hyy : (y == y) = true := by simp
                      clear hA hB3 hb1
                      by_cases hbig : 6 < n
                      · have e1 : min n 6 = 6 := by omega
                        rw [e1] at HS HP
                        replace HS : Hid (S = ⟨16, 3⟩) := HS.out
                        have hbi : (6 : Int) < (n : Int) := by omega
                        clear e1
                        go_wp2
                        go_quiet (fail)
                        have HN2 : Hid _ := two_new (W1.drewN nq) (.int .i64 16) (.int .i64 3) 61
                        have c2 : (W1.drewN nq).cell? ⟨g, o + _, none⟩ = _ := c1
                        have HOX : Hid ((W1.drewN nq).ownsRow w.heap.size 61 2 _ acc.length (stc acc)) := HO1.out
                        have HBX : Hid (Below w.heap.size w (W1.drewN nq)) := below_drewN' HB1.out nq
                        have hszX : w.heap.size ≤ (W1.drewN nq).heap.size := HBX.out.size
                        clear HO1 HB1
                        generalize W1.drewN nq = W2 at *
                        go_wp2_with (at_builtin; refine wpList_append_own _ rfl _ _ 58 rfl w.heap.size 61 i0 (.agg #[.int .i64 0, .int .i64 0]) 2 16 Try.underlying58 hi hz0 hz1 hz2 rfl (by decide) _ _ _ rfl (HOX.out.alloc _) ⟨W2.heap.size, 0, none⟩ 1 1 [.int .i64 16, .int .i64 3] rfl rfl HN2.out (two_one _ _) ?c3 ?c4 ?c5 ?_)
                        case c3 => unfold maxLen; omega
                        case c4 => omega
                        case c5 => first | omega | (rw [World.size_alloc]; omega)
                        intro v8 w8 hown hg8 _
                        have HO8 : Hid (w8.ownsRow w.heap.size 61 2 v8 (acc.length + 1) (stc (acc ++ [S]))) := by unfold Hid; rw [stc_snoc, HS.out]; exact hown
                        have HB8 : Hid (Below w.heap.size w w8) := (HBX.out.alloc hszX _).grown hg8 (by rw [World.size_alloc]; omega) (fun q hq => (HOX.out.lt q hq).1)
                        clear hown hg8 HOX HBX HN2
                        go_wp2
                        go_roundw
                        case rel => exact ⟨k + 1, by rw [HK.out, HP.out]; go_num, by rw [HK.out, List.length_append]; exact HO8.out, HB8.out⟩
                        case measure => simp [intOf]; omega
                      · have e1 : min n 6 = n := by omega
                        rw [e1] at HS HP
                        have hbi : ¬ (6 : Int) < (n : Int) := by omega
                        clear e1
                        go_wp2
                        go_quiet (fail)
                        have HN2 : Hid _ := two_new (W1.drewN nq) (.int .i64 16) (.int .i64 ((n : Int) - 3)) 61
                        have c2 : (W1.drewN nq).cell? ⟨g, o + _, none⟩ = _ := c1
                        have HOX : Hid ((W1.drewN nq).ownsRow w.heap.size 61 2 _ acc.length (stc acc)) := HO1.out
                        have HBX : Hid (Below w.heap.size w (W1.drewN nq)) := below_drewN' HB1.out nq
                        have hszX : w.heap.size ≤ (W1.drewN nq).heap.size := HBX.out.size
                        clear HO1 HB1
                        generalize W1.drewN nq = W2 at *
                        go_wp2_with (at_builtin; refine wpList_append_own _ rfl _ _ 58 rfl w.heap.size 61 i0 (.agg #[.int .i64 0, .int .i64 0]) 2 16 Try.underlying58 hi hz0 hz1 hz2 rfl (by decide) _ _ _ rfl (HOX.out.alloc _) ⟨W2.heap.size, 0, none⟩ 1 1 [.int .i64 16, .int .i64 ((n : Int) - 3)] rfl rfl HN2.out (two_one _ _) ?c3 ?c4 ?c5 ?_)
                        case c3 => unfold maxLen; omega
                        case c4 => omega
                        case c5 => first | omega | (rw [World.size_alloc]; omega)
                        intro v8 w8 hown hg8 _
                        have HO8 : Hid (w8.ownsRow w.heap.size 61 2 v8 (acc.length + 1) (stc (acc ++ [S]))) := by unfold Hid; rw [stc_snoc, HS.out]; exact hown
                        have HB8 : Hid (Below w.heap.size w w8) := (HBX.out.alloc hszX _).grown hg8 (by rw [World.size_alloc]; omega) (fun q hq => (HOX.out.lt q hq).1)
                        clear hown hg8 HOX HBX HN2
                        go_wp2
                        go_roundw
                        case rel => exact ⟨k + 1, by rw [HK.out, HP.out]; go_num, by rw [HK.out, List.length_append]; exact HO8.out, HB8.out⟩
                        case measure => simp [intOf]; omega
                    · rw [if_neg (fun h => h3 h.2.2)] at HS HP
                      have hyy : (y == y) = true := by simp
                      have hm : ¬ (3 : Int) ≤ (n : Int) := by omega
                      have hm11 : ¬ (11 : Int) ≤ (n : Int) := by omega
                      clear hA hB3 hb1
                      by_cases hy0 : y = 0
                      · subst hy0
                        go_wp2
                        go_quiet (fail)
                        have HN2 : Hid _ := two_new (W1.drewN nq) (.int .i64 0) (.int .i64 0) 61
                        have c2 : (W1.drewN nq).cell? ⟨g, o + _, none⟩ = _ := c1
                        have HOX : Hid ((W1.drewN nq).ownsRow w.heap.size 61 2 _ acc.length (stc acc)) := HO1.out
                        have HBX : Hid (Below w.heap.size w (W1.drewN nq)) := below_drewN' HB1.out nq
                        have hszX : w.heap.size ≤ (W1.drewN nq).heap.size := HBX.out.size
                        clear HO1 HB1
                        generalize W1.drewN nq = W2 at *
                        go_wp2_with (at_builtin; refine wpList_append_own _ rfl _ _ 58 rfl w.heap.size 61 i0 (.agg #[.int .i64 0, .int .i64 0]) 2 16 Try.underlying58 hi hz0 hz1 hz2 rfl (by decide) _ _ _ rfl (HOX.out.alloc _) ⟨W2.heap.size, 0, none⟩ 1 1 [.int .i64 0, .int .i64 0] rfl rfl HN2.out (two_one _ _) ?c3 ?c4 ?c5 ?_)
                        case c3 => unfold maxLen; omega
                        case c4 => omega
                        case c5 => first | omega | (rw [World.size_alloc]; omega)
                        intro v8 w8 hown hg8 _
                        have HO8 : Hid (w8.ownsRow w.heap.size 61 2 v8 (acc.length + 1) (stc (acc ++ [S]))) := by unfold Hid; rw [stc_snoc, HS.out]; exact hown
                        have HB8 : Hid (Below w.heap.size w w8) := (HBX.out.alloc hszX _).grown hg8 (by rw [World.size_alloc]; omega) (fun q hq => (HOX.out.lt q hq).1)
                        clear hown hg8 HOX HBX HN2
                        go_wp2
                        go_roundw
                        case rel => exact ⟨k + 1, by rw [HK.out, HP.out]; go_num, by rw [HK.out, List.length_append]; exact HO8.out, HB8.out⟩
                        case measure => simp [intOf]; omega
                      · have hq0 : (y == 0) = false := by simpa using hy0
                        go_wp2
                        go_quiet (fail)
                        have HN2 : Hid _ := two_new (W1.drewN nq) (.int .i64 y) (.int .i64 0) 61
                        have c2 : (W1.drewN nq).cell? ⟨g, o + _, none⟩ = _ := c1
                        have HOX : Hid ((W1.drewN nq).ownsRow w.heap.size 61 2 _ acc.length (stc acc)) := HO1.out
                        have HBX : Hid (Below w.heap.size w (W1.drewN nq)) := below_drewN' HB1.out nq
                        have hszX : w.heap.size ≤ (W1.drewN nq).heap.size := HBX.out.size
                        clear HO1 HB1
                        generalize W1.drewN nq = W2 at *
                        go_wp2_with (at_builtin; refine wpList_append_own _ rfl _ _ 58 rfl w.heap.size 61 i0 (.agg #[.int .i64 0, .int .i64 0]) 2 16 Try.underlying58 hi hz0 hz1 hz2 rfl (by decide) _ _ _ rfl (HOX.out.alloc _) ⟨W2.heap.size, 0, none⟩ 1 1 [.int .i64 y, .int .i64 0] rfl rfl HN2.out (two_one _ _) ?c3 ?c4 ?c5 ?_)
                        case c3 => unfold maxLen; omega
                        case c4 => omega
                        case c5 => first | omega | (rw [World.size_alloc]; omega)
                        intro v8 w8 hown hg8 _
                        have HO8 : Hid (w8.ownsRow w.heap.size 61 2 v8 (acc.length + 1) (stc (acc ++ [S]))) := by unfold Hid; rw [stc_snoc, HS.out]; exact hown
                        have HB8 : Hid (Below w.heap.size w w8) := (HBX.out.alloc hszX _).grown hg8 (by rw [World.size_alloc]; omega) (fun q hq => (HOX.out.lt q hq).1)
                        clear hown hg8 HOX HBX HN2
                        go_wp2
                        go_roundw
                        case rel => exact ⟨k + 1, by rw [HK.out, HP.out]; go_num, by rw [HK.out, List.length_append]; exact HO8.out, HB8.out⟩
                        case measure => simp [intOf]; omega
                  · rw [if_neg (fun h => hyz h.2.1)] at HS HP
                    have hq1 : (y == z) = false := by simpa using hyz
                    clear hA hB3
                    rcases hb1 with hq0 | ⟨rfl, hm11, hm3⟩
                    · go_wp2
                      go_quiet (fail)
                      have HN2 : Hid _ := two_new (W1.drewN nq) (.int .i64 z) (.int .i64 0) 61
                      have c2 : (W1.drewN nq).cell? ⟨g, o + _, none⟩ = _ := c1
                      have HOX : Hid ((W1.drewN nq).ownsRow w.heap.size 61 2 _ acc.length (stc acc)) := HO1.out
                      have HBX : Hid (Below w.heap.size w (W1.drewN nq)) := below_drewN' HB1.out nq
                      have hszX : w.heap.size ≤ (W1.drewN nq).heap.size := HBX.out.size
                      clear HO1 HB1
                      generalize W1.drewN nq = W2 at *
                      go_wp2_with (at_builtin; refine wpList_append_own _ rfl _ _ 58 rfl w.heap.size 61 i0 (.agg #[.int .i64 0, .int .i64 0]) 2 16 Try.underlying58 hi hz0 hz1 hz2 rfl (by decide) _ _ _ rfl (HOX.out.alloc _) ⟨W2.heap.size, 0, none⟩ 1 1 [.int .i64 z, .int .i64 0] rfl rfl HN2.out (two_one _ _) ?c3 ?c4 ?c5 ?_)
                      case c3 => unfold maxLen; omega
                      case c4 => omega
                      case c5 => first | omega | (rw [World.size_alloc]; omega)
                      intro v8 w8 hown hg8 _
                      have HO8 : Hid (w8.ownsRow w.heap.size 61 2 v8 (acc.length + 1) (stc (acc ++ [S]))) := by unfold Hid; rw [stc_snoc, HS.out]; exact hown
                      have HB8 : Hid (Below w.heap.size w w8) := (HBX.out.alloc hszX _).grown hg8 (by rw [World.size_alloc]; omega) (fun q hq => (HOX.out.lt q hq).1)
                      clear hown hg8 HOX HBX HN2
                      go_wp2
                      go_roundw
                      case rel => exact ⟨k + 1, by rw [HK.out, HP.out]; go_num, by rw [HK.out, List.length_append]; exact HO8.out, HB8.out⟩
                      case measure => simp [intOf]; omega
                    · go_wp2
                      go_quiet (fail)
                      have HN2 : Hid _ := two_new (W1.drewN nq) (.int .i64 0) (.int .i64 0) 61
                      have c2 : (W1.drewN nq).cell? ⟨g, o + _, none⟩ = _ := c1
                      have HOX : Hid ((W1.drewN nq).ownsRow w.heap.size 61 2 _ acc.length (stc acc)) := HO1.out
                      have HBX : Hid (Below w.heap.size w (W1.drewN nq)) := below_drewN' HB1.out nq
                      have hszX : w.heap.size ≤ (W1.drewN nq).heap.size := HBX.out.size
                      clear HO1 HB1
                      generalize W1.drewN nq = W2 at *
                      go_wp2_with (at_builtin; refine wpList_append_own _ rfl _ _ 58 rfl w.heap.size 61 i0 (.agg #[.int .i64 0, .int .i64 0]) 2 16 Try.underlying58 hi hz0 hz1 hz2 rfl (by decide) _ _ _ rfl (HOX.out.alloc _) ⟨W2.heap.size, 0, none⟩ 1 1 [.int .i64 0, .int .i64 0] rfl rfl HN2.out (two_one _ _) ?c3 ?c4 ?c5 ?_)
                      case c3 => unfold maxLen; omega
                      case c4 => omega
                      case c5 => first | omega | (rw [World.size_alloc]; omega)
                      intro v8 w8 hown hg8 _
                      have HO8 : Hid (w8.ownsRow w.heap.size 61 2 v8 (acc.length + 1) (stc (acc ++ [S]))) := by unfold Hid; rw [stc_snoc, HS.out]; exact hown
                      have HB8 : Hid (Below w.heap.size w w8) := (HBX.out.alloc hszX _).grown hg8 (by rw [World.size_alloc]; omega) (fun q hq => (HOX.out.lt q hq).1)
                      clear hown hg8 HOX HBX HN2
                      go_wp2
                      go_roundw
                      case rel => exact ⟨k + 1, by rw [HK.out, HP.out]; go_num, by rw [HK.out, List.length_append]; exact HO8.out, HB8.out⟩
                      case measure => simp [intOf]; omega
                · rw [if_neg (fun h => hi3 h.1)] at HS HP
                  have hg0 : decide ((0 : Int) < (i : Int)) = false := by simp; omega
                  clear HCP hA hB3
                  rcases hb1 with hq0 | ⟨rfl, hm11, hm3⟩
                  · go_wp2
                    go_quiet (fail)
                    have HN2 : Hid _ := two_new (W1.drewN nq) (.int .i64 z) (.int .i64 0) 61
                    have c2 : (W1.drewN nq).cell? ⟨g, o + _, none⟩ = _ := c1
                    have HOX : Hid ((W1.drewN nq).ownsRow w.heap.size 61 2 _ acc.length (stc acc)) := HO1.out
                    have HBX : Hid (Below w.heap.size w (W1.drewN nq)) := below_drewN' HB1.out nq
                    have hszX : w.heap.size ≤ (W1.drewN nq).heap.size := HBX.out.size
                    clear HO1 HB1
                    generalize W1.drewN nq = W2 at *
                    go_wp2_with (at_builtin; refine wpList_append_own _ rfl _ _ 58 rfl w.heap.size 61 i0 (.agg #[.int .i64 0, .int .i64 0]) 2 16 Try.underlying58 hi hz0 hz1 hz2 rfl (by decide) _ _ _ rfl (HOX.out.alloc _) ⟨W2.heap.size, 0, none⟩ 1 1 [.int .i64 z, .int .i64 0] rfl rfl HN2.out (two_one _ _) ?c3 ?c4 ?c5 ?_)
                    case c3 => unfold maxLen; omega
                    case c4 => omega
                    case c5 => first | omega | (rw [World.size_alloc]; omega)
                    intro v8 w8 hown hg8 _
                    have HO8 : Hid (w8.ownsRow w.heap.size 61 2 v8 (acc.length + 1) (stc (acc ++ [S]))) := by unfold Hid; rw [stc_snoc, HS.out]; exact hown
                    have HB8 : Hid (Below w.heap.size w w8) := (HBX.out.alloc hszX _).grown hg8 (by rw [World.size_alloc]; omega) (fun q hq => (HOX.out.lt q hq).1)
                    clear hown hg8 HOX HBX HN2
                    go_wp2
                    go_roundw
                    case rel => exact ⟨k + 1, by rw [HK.out, HP.out]; go_num, by rw [HK.out, List.length_append]; exact HO8.out, HB8.out⟩
                    case measure => simp [intOf]; omega
                  · go_wp2
                    go_quiet (fail)
                    have HN2 : Hid _ := two_new (W1.drewN nq) (.int .i64 0) (.int .i64 0) 61
                    have c2 : (W1.drewN nq).cell? ⟨g, o + _, none⟩ = _ := c1
                    have HOX : Hid ((W1.drewN nq).ownsRow w.heap.size 61 2 _ acc.length (stc acc)) := HO1.out
                    have HBX : Hid (Below w.heap.size w (W1.drewN nq)) := below_drewN' HB1.out nq
                    have hszX : w.heap.size ≤ (W1.drewN nq).heap.size := HBX.out.size
                    clear HO1 HB1
                    generalize W1.drewN nq = W2 at *
                    go_wp2_with (at_builtin; refine wpList_append_own _ rfl _ _ 58 rfl w.heap.size 61 i0 (.agg #[.int .i64 0, .int .i64 0]) 2 16 Try.underlying58 hi hz0 hz1 hz2 rfl (by decide) _ _ _ rfl (HOX.out.alloc _) ⟨W2.heap.size, 0, none⟩ 1 1 [.int .i64 0, .int .i64 0] rfl rfl HN2.out (two_one _ _) ?c3 ?c4 ?c5 ?_)
                    case c3 => unfold maxLen; omega
                    case c4 => omega
                    case c5 => first | omega | (rw [World.size_alloc]; omega)
                    intro v8 w8 hown hg8 _
                    have HO8 : Hid (w8.ownsRow w.heap.size 61 2 v8 (acc.length + 1) (stc (acc ++ [S]))) := by unfold Hid; rw [stc_snoc, HS.out]; exact hown
                    have HB8 : Hid (Below w.heap.size w w8) := (HBX.out.alloc hszX _).grown hg8 (by rw [World.size_alloc]; omega) (fun q hq => (HOX.out.lt q hq).1)
                    clear hown hg8 HOX HBX HN2
                    go_wp2
                    go_roundw
                    case rel => exact ⟨k + 1, by rw [HK.out, HP.out]; go_num, by rw [HK.out, List.length_append]; exact HO8.out, HB8.out⟩
                    case measure => simp [intOf]; omega
        · have hg1 : decide ((i : Int) + (n : Int) < (zs.length : Int)) = false := by simp; omega
          have hEN : E = n := by
            have := HGE.out
            omega
          clear HN2 HGE
          go_wp2
          go_quiet (fail)
          have HO1 : Hid (((wr.drewN m).drewN nq).ownsRow w.heap.size 61 2 _ acc.length (stc acc)) := hO
          have HB1 : Hid (Below w.heap.size w ((wr.drewN m).drewN nq)) := below_drewN' (below_drewN' hB m) nq
          have c1 : ((wr.drewN m).drewN nq).cell? ⟨g, o + i, none⟩ = some (.int .i64 z) := ci
          have HCP : Hid (0 < i → ((wr.drewN m).drewN nq).cell? ⟨g, o + (i - 1), none⟩ = some (.int .i64 y)) := HCP0.out
          obtain rfl := hEN.symm
          clear hO hB ci HCN HGE0 HST0 HCP0
          generalize (wr.drewN m).drewN nq = W1 at *
          by_cases hA : z = 0 ∧ 11 ≤ n
          · rw [if_pos hA] at HS HP
            obtain ⟨rfl, h11⟩ := hA
            have hm : (11 : Int) ≤ (n : Int) := by omega
            clear HCP
            by_cases hbig : 138 < n
            · have e1 : min n 138 = 138 := by omega
              rw [e1] at HS HP
              replace HS : Hid (S = ⟨18, 127⟩) := HS.out
              have hbi : (138 : Int) < (n : Int) := by omega
              clear e1
              have HN2 : Hid _ := two_new W1 (.int .i64 18) (.int .i64 127) 61
              have HOX : Hid (W1.ownsRow w.heap.size 61 2 _ acc.length (stc acc)) := HO1.out
              have HBX : Hid (Below w.heap.size w W1) := HB1.out
              have hszX : w.heap.size ≤ W1.heap.size := HBX.out.size
              clear HO1 HB1
              skip
              go_wp2_with (at_builtin; refine wpList_append_own _ rfl _ _ 58 rfl w.heap.size 61 i0 (.agg #[.int .i64 0, .int .i64 0]) 2 16 Try.underlying58 hi hz0 hz1 hz2 rfl (by decide) _ _ _ rfl (HOX.out.alloc _) ⟨W1.heap.size, 0, none⟩ 1 1 [.int .i64 18, .int .i64 127] rfl rfl HN2.out (two_one _ _) ?c3 ?c4 ?c5 ?_)
              case c3 => unfold maxLen; omega
              case c4 => omega
              case c5 => first | omega | (rw [World.size_alloc]; omega)
              intro v8 w8 hown hg8 _
              have HO8 : Hid (w8.ownsRow w.heap.size 61 2 v8 (acc.length + 1) (stc (acc ++ [S]))) := by unfold Hid; rw [stc_snoc, HS.out]; exact hown
              have HB8 : Hid (Below w.heap.size w w8) := (HBX.out.alloc hszX _).grown hg8 (by rw [World.size_alloc]; omega) (fun q hq => (HOX.out.lt q hq).1)
              clear hown hg8 HOX HBX HN2
              go_wp2
              go_roundw
              case rel => exact ⟨k + 1, by rw [HK.out, HP.out]; go_num, by rw [HK.out, List.length_append]; exact HO8.out, HB8.out⟩
              case measure => simp [intOf]; omega
            · have e1 : min n 138 = n := by omega
              rw [e1] at HS HP
              have hbi : ¬ (138 : Int) < (n : Int) := by omega
              clear e1
              have HN2 : Hid _ := two_new W1 (.int .i64 18) (.int .i64 ((n : Int) - 11)) 61
              have HOX : Hid (W1.ownsRow w.heap.size 61 2 _ acc.length (stc acc)) := HO1.out
              have HBX : Hid (Below w.heap.size w W1) := HB1.out
              have hszX : w.heap.size ≤ W1.heap.size := HBX.out.size
              clear HO1 HB1
              skip
              go_wp2_with (at_builtin; refine wpList_append_own _ rfl _ _ 58 rfl w.heap.size 61 i0 (.agg #[.int .i64 0, .int .i64 0]) 2 16 Try.underlying58 hi hz0 hz1 hz2 rfl (by decide) _ _ _ rfl (HOX.out.alloc _) ⟨W1.heap.size, 0, none⟩ 1 1 [.int .i64 18, .int .i64 ((n : Int) - 11)] rfl rfl HN2.out (two_one _ _) ?c3 ?c4 ?c5 ?_)
              case c3 => unfold maxLen; omega
              case c4 => omega
              case c5 => first | omega | (rw [World.size_alloc]; omega)
              intro v8 w8 hown hg8 _
              have HO8 : Hid (w8.ownsRow w.heap.size 61 2 v8 (acc.length + 1) (stc (acc ++ [S]))) := by unfold Hid; rw [stc_snoc, HS.out]; exact hown
              have HB8 : Hid (Below w.heap.size w w8) := (HBX.out.alloc hszX _).grown hg8 (by rw [World.size_alloc]; omega) (fun q hq => (HOX.out.lt q hq).1)
              clear hown hg8 HOX HBX HN2
              go_wp2
              go_roundw
              case rel => exact ⟨k + 1, by rw [HK.out, HP.out]; go_num, by rw [HK.out, List.length_append]; exact HO8.out, HB8.out⟩
              case measure => simp [intOf]; omega
          · rw [if_neg hA] at HS HP
            by_cases hB3 : z = 0 ∧ 3 ≤ n
            · rw [if_pos hB3] at HS HP
              obtain ⟨rfl, h3⟩ := hB3
              have hm1 : ¬ (11 : Int) ≤ (n : Int) := by omega
              have hm : (3 : Int) ≤ (n : Int) := by omega
              clear HCP
              by_cases hbig : 10 < n
              · exact absurd hbig (by omega)
              · have e1 : min n 10 = n := by omega
                rw [e1] at HS HP
                have hbi : ¬ (10 : Int) < (n : Int) := by omega
                clear e1
                have HN2 : Hid _ := two_new W1 (.int .i64 17) (.int .i64 ((n : Int) - 3)) 61
                have HOX : Hid (W1.ownsRow w.heap.size 61 2 _ acc.length (stc acc)) := HO1.out
                have HBX : Hid (Below w.heap.size w W1) := HB1.out
                have hszX : w.heap.size ≤ W1.heap.size := HBX.out.size
                clear HO1 HB1
                skip
                go_wp2_with (at_builtin; refine wpList_append_own _ rfl _ _ 58 rfl w.heap.size 61 i0 (.agg #[.int .i64 0, .int .i64 0]) 2 16 Try.underlying58 hi hz0 hz1 hz2 rfl (by decide) _ _ _ rfl (HOX.out.alloc _) ⟨W1.heap.size, 0, none⟩ 1 1 [.int .i64 17, .int .i64 ((n : Int) - 3)] rfl rfl HN2.out (two_one _ _) ?c3 ?c4 ?c5 ?_)
                case c3 => unfold maxLen; omega
                case c4 => omega
                case c5 => first | omega | (rw [World.size_alloc]; omega)
                intro v8 w8 hown hg8 _
                have HO8 : Hid (w8.ownsRow w.heap.size 61 2 v8 (acc.length + 1) (stc (acc ++ [S]))) := by unfold Hid; rw [stc_snoc, HS.out]; exact hown
                have HB8 : Hid (Below w.heap.size w w8) := (HBX.out.alloc hszX _).grown hg8 (by rw [World.size_alloc]; omega) (fun q hq => (HOX.out.lt q hq).1)
                clear hown hg8 HOX HBX HN2
                go_wp2
                go_roundw
                case rel => exact ⟨k + 1, by rw [HK.out, HP.out]; go_num, by rw [HK.out, List.length_append]; exact HO8.out, HB8.out⟩
                case measure => simp [intOf]; omega
            · rw [if_neg hB3] at HS HP
              have hb1 : ((z == 0) = false) ∨ (z = 0 ∧ ¬ (11 : Int) ≤ (n : Int) ∧ ¬ (3 : Int) ≤ (n : Int)) := by
                by_cases h : z = 0
                · exact .inr ⟨h, by omega, by omega⟩
                · exact .inl (by simpa using h)
              by_cases hi3 : 0 < i
              · have hci := HCP.out hi3
                obtain ⟨j, rfl⟩ : ∃ j, i = j + 1 := ⟨i - 1, by omega⟩
                rw [Nat.add_sub_cancel] at hci
                have hj1 : (0 : Int) ≤ (j : Int) := by omega
                have hj2 : (j : Int) < (zs.length : Int) := by omega
                clear HCP
                by_cases hyz : y = z
                · subst hyz
                  by_cases h3 : 3 ≤ n
                  · rw [if_pos ⟨hi3, rfl, h3⟩] at HS HP
                    have hy0 : (y == 0) = false := by
                      rcases hb1 with h | h
                      · exact h
                      · omega
                    have hm : (3 : Int) ≤ (n : Int) := by omega
                    have hyy : (y == y) = true := by simp
                    clear hA hB3 hb1
                    by_cases hbig : 6 < n
                    · have e1 : min n 6 = 6 := by omega
                      rw [e1] at HS HP
                      replace HS : Hid (S = ⟨16, 3⟩) := HS.out
                      have hbi : (6 : Int) < (n : Int) := by omega
                      clear e1
                      go_wp2
                      go_quiet (fail)
                      have HN2 : Hid _ := two_new (W1.drewN nq) (.int .i64 16) (.int .i64 3) 61
                      have c2 : (W1.drewN nq).cell? ⟨g, o + _, none⟩ = _ := c1
                      have HOX : Hid ((W1.drewN nq).ownsRow w.heap.size 61 2 _ acc.length (stc acc)) := HO1.out
                      have HBX : Hid (Below w.heap.size w (W1.drewN nq)) := below_drewN' HB1.out nq
                      have hszX : w.heap.size ≤ (W1.drewN nq).heap.size := HBX.out.size
                      clear HO1 HB1
                      generalize W1.drewN nq = W2 at *
                      go_wp2_with (at_builtin; refine wpList_append_own _ rfl _ _ 58 rfl w.heap.size 61 i0 (.agg #[.int .i64 0, .int .i64 0]) 2 16 Try.underlying58 hi hz0 hz1 hz2 rfl (by decide) _ _ _ rfl (HOX.out.alloc _) ⟨W2.heap.size, 0, none⟩ 1 1 [.int .i64 16, .int .i64 3] rfl rfl HN2.out (two_one _ _) ?c3 ?c4 ?c5 ?_)
                      case c3 => unfold maxLen; omega
                      case c4 => omega
                      case c5 => first | omega | (rw [World.size_alloc]; omega)
                      intro v8 w8 hown hg8 _
                      have HO8 : Hid (w8.ownsRow w.heap.size 61 2 v8 (acc.length + 1) (stc (acc ++ [S]))) := by unfold Hid; rw [stc_snoc, HS.out]; exact hown
                      have HB8 : Hid (Below w.heap.size w w8) := (HBX.out.alloc hszX _).grown hg8 (by rw [World.size_alloc]; omega) (fun q hq => (HOX.out.lt q hq).1)
                      clear hown hg8 HOX HBX HN2
                      go_wp2
                      go_roundw
                      case rel => exact ⟨k + 1, by rw [HK.out, HP.out]; go_num, by rw [HK.out, List.length_append]; exact HO8.out, HB8.out⟩
                      case measure => simp [intOf]; omega
                    · have e1 : min n 6 = n := by omega
                      rw [e1] at HS HP
                      have hbi : ¬ (6 : Int) < (n : Int) := by omega
                      clear e1
                      go_wp2
                      go_quiet (fail)
                      have HN2 : Hid _ := two_new (W1.drewN nq) (.int .i64 16) (.int .i64 ((n : Int) - 3)) 61
                      have c2 : (W1.drewN nq).cell? ⟨g, o + _, none⟩ = _ := c1
                      have HOX : Hid ((W1.drewN nq).ownsRow w.heap.size 61 2 _ acc.length (stc acc)) := HO1.out
                      have HBX : Hid (Below w.heap.size w (W1.drewN nq)) := below_drewN' HB1.out nq
                      have hszX : w.heap.size ≤ (W1.drewN nq).heap.size := HBX.out.size
                      clear HO1 HB1
                      generalize W1.drewN nq = W2 at *
                      go_wp2_with (at_builtin; refine wpList_append_own _ rfl _ _ 58 rfl w.heap.size 61 i0 (.agg #[.int .i64 0, .int .i64 0]) 2 16 Try.underlying58 hi hz0 hz1 hz2 rfl (by decide) _ _ _ rfl (HOX.out.alloc _) ⟨W2.heap.size, 0, none⟩ 1 1 [.int .i64 16, .int .i64 ((n : Int) - 3)] rfl rfl HN2.out (two_one _ _) ?c3 ?c4 ?c5 ?_)
                      case c3 => unfold maxLen; omega
                      case c4 => omega
                      case c5 => first | omega | (rw [World.size_alloc]; omega)
                      intro v8 w8 hown hg8 _
                      have HO8 : Hid (w8.ownsRow w.heap.size 61 2 v8 (acc.length + 1) (stc (acc ++ [S]))) := by unfold Hid; rw [stc_snoc, HS.out]; exact hown
                      have HB8 : Hid (Below w.heap.size w w8) := (HBX.out.alloc hszX _).grown hg8 (by rw [World.size_alloc]; omega) (fun q hq => (HOX.out.lt q hq).1)
                      clear hown hg8 HOX HBX HN2
                      go_wp2
                      go_roundw
                      case rel => exact ⟨k + 1, by rw [HK.out, HP.out]; go_num, by rw [HK.out, List.length_append]; exact HO8.out, HB8.out⟩
                      case measure => simp [intOf]; omega
                  · rw [if_neg (fun h => h3 h.2.2)] at HS HP
                    have hyy : (y == y) = true := by simp
                    have hm : ¬ (3 : Int) ≤ (n : Int) := by omega
                    have hm11 : ¬ (11 : Int) ≤ (n : Int) := by omega
                    clear hA hB3 hb1
                    by_cases hy0 : y = 0
                    · subst hy0
                      go_wp2
                      go_quiet (fail)
                      have HN2 : Hid _ := two_new (W1.drewN nq) (.int .i64 0) (.int .i64 0) 61
                      have c2 : (W1.drewN nq).cell? ⟨g, o + _, none⟩ = _ := c1
                      have HOX : Hid ((W1.drewN nq).ownsRow w.heap.size 61 2 _ acc.length (stc acc)) := HO1.out
                      have HBX : Hid (Below w.heap.size w (W1.drewN nq)) := below_drewN' HB1.out nq
                      have hszX : w.heap.size ≤ (W1.drewN nq).heap.size := HBX.out.size
                      clear HO1 HB1
                      generalize W1.drewN nq = W2 at *
                      go_wp2_with (at_builtin; refine wpList_append_own _ rfl _ _ 58 rfl w.heap.size 61 i0 (.agg #[.int .i64 0, .int .i64 0]) 2 16 Try.underlying58 hi hz0 hz1 hz2 rfl (by decide) _ _ _ rfl (HOX.out.alloc _) ⟨W2.heap.size, 0, none⟩ 1 1 [.int .i64 0, .int .i64 0] rfl rfl HN2.out (two_one _ _) ?c3 ?c4 ?c5 ?_)
                      case c3 => unfold maxLen; omega
                      case c4 => omega
                      case c5 => first | omega | (rw [World.size_alloc]; omega)
                      intro v8 w8 hown hg8 _
                      have HO8 : Hid (w8.ownsRow w.heap.size 61 2 v8 (acc.length + 1) (stc (acc ++ [S]))) := by unfold Hid; rw [stc_snoc, HS.out]; exact hown
                      have HB8 : Hid (Below w.heap.size w w8) := (HBX.out.alloc hszX _).grown hg8 (by rw [World.size_alloc]; omega) (fun q hq => (HOX.out.lt q hq).1)
                      clear hown hg8 HOX HBX HN2
                      go_wp2
                      go_roundw
                      case rel => exact ⟨k + 1, by rw [HK.out, HP.out]; go_num, by rw [HK.out, List.length_append]; exact HO8.out, HB8.out⟩
                      case measure => simp [intOf]; omega
                    · have hq0 : (y == 0) = false := by simpa using hy0
                      go_wp2
                      go_quiet (fail)
                      have HN2 : Hid _ := two_new (W1.drewN nq) (.int .i64 y) (.int .i64 0) 61
                      have c2 : (W1.drewN nq).cell? ⟨g, o + _, none⟩ = _ := c1
                      have HOX : Hid ((W1.drewN nq).ownsRow w.heap.size 61 2 _ acc.length (stc acc)) := HO1.out
                      have HBX : Hid (Below w.heap.size w (W1.drewN nq)) := below_drewN' HB1.out nq
                      have hszX : w.heap.size ≤ (W1.drewN nq).heap.size := HBX.out.size
                      clear HO1 HB1
                      generalize W1.drewN nq = W2 at *
                      go_wp2_with (at_builtin; refine wpList_append_own _ rfl _ _ 58 rfl w.heap.size 61 i0 (.agg #[.int .i64 0, .int .i64 0]) 2 16 Try.underlying58 hi hz0 hz1 hz2 rfl (by decide) _ _ _ rfl (HOX.out.alloc _) ⟨W2.heap.size, 0, none⟩ 1 1 [.int .i64 y, .int .i64 0] rfl rfl HN2.out (two_one _ _) ?c3 ?c4 ?c5 ?_)
                      case c3 => unfold maxLen; omega
                      case c4 => omega
                      case c5 => first | omega | (rw [World.size_alloc]; omega)
                      intro v8 w8 hown hg8 _
                      have HO8 : Hid (w8.ownsRow w.heap.size 61 2 v8 (acc.length + 1) (stc (acc ++ [S]))) := by unfold Hid; rw [stc_snoc, HS.out]; exact hown
                      have HB8 : Hid (Below w.heap.size w w8) := (HBX.out.alloc hszX _).grown hg8 (by rw [World.size_alloc]; omega) (fun q hq => (HOX.out.lt q hq).1)
                      clear hown hg8 HOX HBX HN2
                      go_wp2
                      go_roundw
                      case rel => exact ⟨k + 1, by rw [HK.out, HP.out]; go_num, by rw [HK.out, List.length_append]; exact HO8.out, HB8.out⟩
                      case measure => simp [intOf]; omega
                · rw [if_neg (fun h => hyz h.2.1)] at HS HP
                  have hq1 : (y == z) = false := by simpa using hyz
                  clear hA hB3
                  rcases hb1 with hq0 | ⟨rfl, hm11, hm3⟩
                  · go_wp2
                    go_quiet (fail)
                    have HN2 : Hid _ := two_new (W1.drewN nq) (.int .i64 z) (.int .i64 0) 61
                    have c2 : (W1.drewN nq).cell? ⟨g, o + _, none⟩ = _ := c1
                    have HOX : Hid ((W1.drewN nq).ownsRow w.heap.size 61 2 _ acc.length (stc acc)) := HO1.out
                    have HBX : Hid (Below w.heap.size w (W1.drewN nq)) := below_drewN' HB1.out nq
                    have hszX : w.heap.size ≤ (W1.drewN nq).heap.size := HBX.out.size
                    clear HO1 HB1
                    generalize W1.drewN nq = W2 at *
                    go_wp2_with (at_builtin; refine wpList_append_own _ rfl _ _ 58 rfl w.heap.size 61 i0 (.agg #[.int .i64 0, .int .i64 0]) 2 16 Try.underlying58 hi hz0 hz1 hz2 rfl (by decide) _ _ _ rfl (HOX.out.alloc _) ⟨W2.heap.size, 0, none⟩ 1 1 [.int .i64 z, .int .i64 0] rfl rfl HN2.out (two_one _ _) ?c3 ?c4 ?c5 ?_)
                    case c3 => unfold maxLen; omega
                    case c4 => omega
                    case c5 => first | omega | (rw [World.size_alloc]; omega)
                    intro v8 w8 hown hg8 _
                    have HO8 : Hid (w8.ownsRow w.heap.size 61 2 v8 (acc.length + 1) (stc (acc ++ [S]))) := by unfold Hid; rw [stc_snoc, HS.out]; exact hown
                    have HB8 : Hid (Below w.heap.size w w8) := (HBX.out.alloc hszX _).grown hg8 (by rw [World.size_alloc]; omega) (fun q hq => (HOX.out.lt q hq).1)
                    clear hown hg8 HOX HBX HN2
                    go_wp2
                    go_roundw
                    case rel => exact ⟨k + 1, by rw [HK.out, HP.out]; go_num, by rw [HK.out, List.length_append]; exact HO8.out, HB8.out⟩
                    case measure => simp [intOf]; omega
                  · go_wp2
                    go_quiet (fail)
                    have HN2 : Hid _ := two_new (W1.drewN nq) (.int .i64 0) (.int .i64 0) 61
                    have c2 : (W1.drewN nq).cell? ⟨g, o + _, none⟩ = _ := c1
                    have HOX : Hid ((W1.drewN nq).ownsRow w.heap.size 61 2 _ acc.length (stc acc)) := HO1.out
                    have HBX : Hid (Below w.heap.size w (W1.drewN nq)) := below_drewN' HB1.out nq
                    have hszX : w.heap.size ≤ (W1.drewN nq).heap.size := HBX.out.size
                    clear HO1 HB1
                    generalize W1.drewN nq = W2 at *
                    go_wp2_with (at_builtin; refine wpList_append_own _ rfl _ _ 58 rfl w.heap.size 61 i0 (.agg #[.int .i64 0, .int .i64 0]) 2 16 Try.underlying58 hi hz0 hz1 hz2 rfl (by decide) _ _ _ rfl (HOX.out.alloc _) ⟨W2.heap.size, 0, none⟩ 1 1 [.int .i64 0, .int .i64 0] rfl rfl HN2.out (two_one _ _) ?c3 ?c4 ?c5 ?_)
                    case c3 => unfold maxLen; omega
                    case c4 => omega
                    case c5 => first | omega | (rw [World.size_alloc]; omega)
                    intro v8 w8 hown hg8 _
                    have HO8 : Hid (w8.ownsRow w.heap.size 61 2 v8 (acc.length + 1) (stc (acc ++ [S]))) := by unfold Hid; rw [stc_snoc, HS.out]; exact hown
                    have HB8 : Hid (Below w.heap.size w w8) := (HBX.out.alloc hszX _).grown hg8 (by rw [World.size_alloc]; omega) (fun q hq => (HOX.out.lt q hq).1)
                    clear hown hg8 HOX HBX HN2
                    go_wp2
                    go_roundw
                    case rel => exact ⟨k + 1, by rw [HK.out, HP.out]; go_num, by rw [HK.out, List.length_append]; exact HO8.out, HB8.out⟩
                    case measure => simp [intOf]; omega
              · rw [if_neg (fun h => hi3 h.1)] at HS HP
                have hg0 : decide ((0 : Int) < (i : Int)) = false := by simp; omega
                clear HCP hA hB3
                rcases hb1 with hq0 | ⟨rfl, hm11, hm3⟩
                · go_wp2
                  go_quiet (fail)
                  have HN2 : Hid _ := two_new (W1.drewN nq) (.int .i64 z) (.int .i64 0) 61
                  have c2 : (W1.drewN nq).cell? ⟨g, o + _, none⟩ = _ := c1
                  have HOX : Hid ((W1.drewN nq).ownsRow w.heap.size 61 2 _ acc.length (stc acc)) := HO1.out
                  have HBX : Hid (Below w.heap.size w (W1.drewN nq)) := below_drewN' HB1.out nq
                  have hszX : w.heap.size ≤ (W1.drewN nq).heap.size := HBX.out.size
                  clear HO1 HB1
                  generalize W1.drewN nq = W2 at *
                  go_wp2_with (at_builtin; refine wpList_append_own _ rfl _ _ 58 rfl w.heap.size 61 i0 (.agg #[.int .i64 0, .int .i64 0]) 2 16 Try.underlying58 hi hz0 hz1 hz2 rfl (by decide) _ _ _ rfl (HOX.out.alloc _) ⟨W2.heap.size, 0, none⟩ 1 1 [.int .i64 z, .int .i64 0] rfl rfl HN2.out (two_one _ _) ?c3 ?c4 ?c5 ?_)
                  case c3 => unfold maxLen; omega
                  case c4 => omega
                  case c5 => first | omega | (rw [World.size_alloc]; omega)
                  intro v8 w8 hown hg8 _
                  have HO8 : Hid (w8.ownsRow w.heap.size 61 2 v8 (acc.length + 1) (stc (acc ++ [S]))) := by unfold Hid; rw [stc_snoc, HS.out]; exact hown
                  have HB8 : Hid (Below w.heap.size w w8) := (HBX.out.alloc hszX _).grown hg8 (by rw [World.size_alloc]; omega) (fun q hq => (HOX.out.lt q hq).1)
                  clear hown hg8 HOX HBX HN2
                  go_wp2
                  go_roundw
                  case rel => exact ⟨k + 1, by rw [HK.out, HP.out]; go_num, by rw [HK.out, List.length_append]; exact HO8.out, HB8.out⟩
                  case measure => simp [intOf]; omega
                · go_wp2
                  go_quiet (fail)
                  have HN2 : Hid _ := two_new (W1.drewN nq) (.int .i64 0) (.int .i64 0) 61
                  have c2 : (W1.drewN nq).cell? ⟨g, o + _, none⟩ = _ := c1
                  have HOX : Hid ((W1.drewN nq).ownsRow w.heap.size 61 2 _ acc.length (stc acc)) := HO1.out
                  have HBX : Hid (Below w.heap.size w (W1.drewN nq)) := below_drewN' HB1.out nq
                  have hszX : w.heap.size ≤ (W1.drewN nq).heap.size := HBX.out.size
                  clear HO1 HB1
                  generalize W1.drewN nq = W2 at *
                  go_wp2_with (at_builtin; refine wpList_append_own _ rfl _ _ 58 rfl w.heap.size 61 i0 (.agg #[.int .i64 0, .int .i64 0]) 2 16 Try.underlying58 hi hz0 hz1 hz2 rfl (by decide) _ _ _ rfl (HOX.out.alloc _) ⟨W2.heap.size, 0, none⟩ 1 1 [.int .i64 0, .int .i64 0] rfl rfl HN2.out (two_one _ _) ?c3 ?c4 ?c5 ?_)
                  case c3 => unfold maxLen; omega
                  case c4 => omega
                  case c5 => first | omega | (rw [World.size_alloc]; omega)
                  intro v8 w8 hown hg8 _
                  have HO8 : Hid (w8.ownsRow w.heap.size 61 2 v8 (acc.length + 1) (stc (acc ++ [S]))) := by unfold Hid; rw [stc_snoc, HS.out]; exact hown
                  have HB8 : Hid (Below w.heap.size w w8) := (HBX.out.alloc hszX _).grown hg8 (by rw [World.size_alloc]; omega) (fun q hq => (HOX.out.lt q hq).1)
                  clear hown hg8 HOX HBX HN2
                  go_wp2
                  go_roundw
                  case rel => exact ⟨k + 1, by rw [HK.out, HP.out]; go_num, by rw [HK.out, List.length_append]; exact HO8.out, HB8.out⟩
                  case measure => simp [intOf]; omega
    · have HA : Hid (_ = _) := stK_all hlt
      rw [HA.out] at hO
      clear HA
      generalize (stK zs k).2 = i at *
      have hii : ¬ (i : Int) < (zs.length : Int) := by omega
      go_wp2
      go_ret
      exact ⟨_, rfl, hO, hB⟩
end Go.Proofs.Ytibnkpfginffhaa
