/- DeflateSteps: the walk. -/
import Derived.Test.YtibnkpfginffhaaAwake7
import Derived.Deep.QuietTactic
import Derived.BigQuiet
namespace Go.Proofs.Ytibnkpfginffhaa
open Go.RowKit
set_option linter.unusedVariables false
set_option linter.unusedSimpArgs false

/-- Brought to 0 to 15. -/
def clZ (z : Int) : Int := max 0 (min z 15)
theorem row_at {w : World} {a : Option Addr} {len cap : Nat} {zs : List Int} (h : IsRow .i64 w a len cap zs) {k : Nat} (hk : k < len) :
    (∃ b off, a = some ⟨b, off, none⟩ ∧ w.cell? ⟨b, off + k, none⟩ = some (.int .i64 (zs.getD k 0)) ∧ b < w.heap.size) ∧ (-9223372036854775808 ≤ zs.getD k 0 ∧ zs.getD k 0 ≤ 9223372036854775807) ∧ len ≤ zs.length := by
  rcases h with ⟨_, h0, _⟩ | ⟨x, rfl, hl, hm, hz, hcell, hwf⟩
  · omega
  · obtain ⟨b, off, spot⟩ := x
    have hc := hcell k (by omega)
    have hmem : zs.getD k 0 ∈ zs := by
      rw [List.getD_eq_getElem?_getD, List.getElem?_eq_getElem (by omega)]; simp
    have hbd := bounds_i64 (hwf _ hmem)
    have hspot : spot = none := by simpa [Addr.add] using World.cell?_spot (hcell 0 (by omega))
    subst hspot
    have e2 : (⟨b, off, none⟩ : Addr).add k = ⟨b, off + k, none⟩ := by unfold Addr.add; split <;> simp_all
    rw [e2] at hc
    exact ⟨⟨b, off, rfl, hc, World.block_lt_of_cell? w _ hc⟩, ⟨hbd.1, hbd.2⟩, by omega⟩
/-- The first k, brought so. -/
def clK (zs : List Int) (k : Nat) : List Int := (zs.take k).map clZ
theorem clK_len (zs : List Int) (k : Nat) : (clK zs k).length ≤ k := by unfold clK; rw [List.length_map, List.length_take]; omega
theorem clK_succ (zs : List Int) (k : Nat) (h : k < zs.length) : ic (clK zs (k + 1)) = ic (clK zs k) ++ [.int .i64 (clZ (zs.getD k 0))] := by
  unfold clK
  rw [List.take_add_one, List.getElem?_eq_getElem h, List.getD_eq_getElem?_getD, List.getElem?_eq_getElem h]
  simp only [ic, Option.toList, List.map_append, List.map_cons, List.map_nil, Option.getD_some]
theorem own_some {w : World} {B n : Nat} {v : Value} {ys : List Int} (h : w.ownsRow B 3 1 v n (ic ys)) (hne : ¬ v = .slice none 0 0) : ∃ g cap, v = .slice (some ⟨g, 0, none⟩) ys.length cap ∧ ys.length ≤ cap ∧ cap ≤ 9223372036854775807 ∧ g < w.heap.size ∧ ∀ i, i < ys.length → w.cell? ⟨g, 0 + i, none⟩ = some (.int .i64 (ys.getD i 0)) := by
  have hl := h.1
  rw [ic_len, Nat.mul_one] at hl
  subst hl
  have hlt := h.lt
  rcases h.2 with ⟨q, _⟩ | ⟨g, cap, cur, rfl, _, _, h1, h2, _⟩
  · exact absurd q hne
  · exact ⟨g, cap, rfl, h1, by unfold maxLen at h2; omega, (hlt g rfl).2, fun i hi => by rw [Nat.zero_add, h.cellAt i (by omega), ic_at _ _ hi]⟩
set_option maxHeartbeats 2000000 in
set_option maxRecDepth 100000 in
theorem lawDeflateSteps_walk (a : Option Addr) (len cap : Nat) (zs : List Int) (w : World) (hR : IsRow .i64 w a len cap zs) :
    Calls Try.prog 6 #[.slice a len cap] w fun e w' => e = .returned (.bool true) ∧ Below w.heap.size w w' := by
  obtain ⟨i0, hi, hz0, hz1, hz2⟩ := info_parts Try.infoI
  have HRW : Hid (∀ k, k < len → (∃ b off, a = some ⟨b, off, none⟩ ∧ w.cell? ⟨b, off + k, none⟩ = some (.int .i64 (zs.getD k 0)) ∧ b < w.heap.size) ∧ (-9223372036854775808 ≤ zs.getD k 0 ∧ zs.getD k 0 ≤ 9223372036854775807) ∧ len ≤ zs.length) := fun k hk => row_at hR hk
  have HO0 : Hid ((w.alloc (.cells #[] 3)).ownsRow w.heap.size 3 1 (.slice (some ⟨w.heap.size, 0, none⟩) 0 0) 0 (ic [])) := World.ownsRow_made (base := w.heap.size) (e := 3) (size := 1) w #[] 0 (Nat.le_refl _) (by decide) rfl
  have HB0 : Hid (Below w.heap.size w (w.alloc (.cells #[] 3))) := (Below.refl _ w).alloc (Nat.le_refl _) _
  clear hR
  go_enter Try.func6, Try.ntmps6
  go_wp2
  generalize World.alloc w _ = W0 at *
  go_loopw [3, 4] (fun v x wr => ∃ k : Nat, k ≤ len ∧ k ≤ 400 ∧ x = .int .i64 (k : Int) ∧ wr.ownsRow w.heap.size 3 1 v k (ic (clK zs k)) ∧ ¬ v = .slice none 0 0 ∧ Below w.heap.size w wr) (fun _ x _ => 400 - (intOf x).toNat)
  case atStart => exact ⟨0, by omega, by omega, rfl, HO0.out, by simp, HB0.out⟩
  case round =>
    clear HO0 HB0
    obtain ⟨k, hk1, hk2, rfl, hO, hne, hB⟩ := hrel
    have hsz := hB.size
    have hk0 : (0 : Int) ≤ (k : Int) := by omega
    by_cases hlt : k < len ∧ k < 400
    · obtain ⟨hl1, hl2⟩ := hlt
      obtain ⟨⟨b, off, rfl, hc, hb⟩, ⟨hzl, hzr⟩, hlz⟩ := HRW.out k hl1
      rw [← hB.cell (p := ⟨b, off + k, none⟩) hb] at hc
      have HCS : Hid (_ = _) := clK_succ zs k (by omega)
      have hl1i : (k : Int) < (len : Int) := by omega
      have hl2i : (k : Int) < 400 := by omega
      have HO : Hid (wr.ownsRow w.heap.size 3 1 _ k (ic (clK zs k))) := hO
      have HB : Hid (Below w.heap.size w wr) := hB
      have HZ : Hid (clZ (zs.getD k 0) = max 0 (min (zs.getD k 0) 15)) := rfl
      generalize clZ (zs.getD k 0) = y at *
      generalize zs.getD k 0 = z at *
      clear hO hB HRW
      have step : ∀ (q : Int), q = y → ∀ v8 w8, w8.ownsRow w.heap.size 3 1 v8 (k + 1) (ic (clK zs k) ++ [.int .i64 q]) → (wr.alloc (.cells #[.int .i64 q] 3)).grownBy w8 (Value.ownBlock _) → w8.ownsRow w.heap.size 3 1 v8 (k + 1) (ic (clK zs (k + 1))) ∧ Below w.heap.size w w8 := fun q hq v8 w8 h8 hg8 => ⟨by rw [HCS.out, ← hq]; exact h8, (HB.out.alloc hsz _).grown hg8 (by rw [World.size_alloc]; omega) (fun j hj => (HO.out.lt j hj).1)⟩
      have HSTEP : Hid _ := step
      clear step HCS
      by_cases hz15 : z ≤ 15
      · by_cases hzn : 0 ≤ z
        · have HY : Hid (z = y) := by unfold Hid; rw [HZ.out]; omega
          clear HZ
          have hm1 : min z 15 = z := by omega
          have hm2 : max 0 z = z := by omega
          go_wp2_with (at_builtin; refine wpList_append_own _ rfl _ _ 22 rfl w.heap.size 3 i0 (.int .i64 0) 1 8 Try.underlying22 hi hz0 hz1 hz2 rfl (by decide) _ _ _ rfl (HO.out.alloc _) ⟨wr.heap.size, 0, none⟩ 1 1 [.int .i64 z] rfl rfl (cell_one_new _ _ _) ?c2 ?c3 ?c4 ?c5 ?_)
          case c2 => first | rfl | (intro u hu; simp at hu; subst hu; rfl)
          case c3 => unfold maxLen; omega
          case c4 => omega
          case c5 => first | omega | (rw [World.size_alloc]; omega)
          intro v8 w8 hown hg8 hne8
          obtain ⟨h8, b8⟩ := HSTEP.out z HY.out v8 w8 hown hg8
          have HO8 : Hid _ := h8
          have HB8 : Hid (Below w.heap.size w w8) := b8
          clear h8 b8 hown hg8 HSTEP HO HB
          go_wp2
          go_roundw
          case rel => exact ⟨k + 1, by omega, by omega, by go_num, HO8.out, hne8, HB8.out⟩
          case measure => simp [intOf]; omega
        · have HY : Hid (0 = y) := by unfold Hid; rw [HZ.out]; omega
          clear HZ
          have hm1 : min z 15 = z := by omega
          have hm2 : max 0 z = 0 := by omega
          have hm3 : z ≤ 0 := by omega
          go_wp2_with (at_builtin; refine wpList_append_own _ rfl _ _ 22 rfl w.heap.size 3 i0 (.int .i64 0) 1 8 Try.underlying22 hi hz0 hz1 hz2 rfl (by decide) _ _ _ rfl (HO.out.alloc _) ⟨wr.heap.size, 0, none⟩ 1 1 [.int .i64 0] rfl rfl (cell_one_new _ _ _) ?c2 ?c3 ?c4 ?c5 ?_)
          case c2 => first | rfl | (intro u hu; simp at hu; subst hu; rfl)
          case c3 => unfold maxLen; omega
          case c4 => omega
          case c5 => first | omega | (rw [World.size_alloc]; omega)
          intro v8 w8 hown hg8 hne8
          obtain ⟨h8, b8⟩ := HSTEP.out 0 HY.out v8 w8 hown hg8
          have HO8 : Hid _ := h8
          have HB8 : Hid (Below w.heap.size w w8) := b8
          clear h8 b8 hown hg8 HSTEP HO HB
          go_wp2
          go_roundw
          case rel => exact ⟨k + 1, by omega, by omega, by go_num, HO8.out, hne8, HB8.out⟩
          case measure => simp [intOf]; omega
      · have HY : Hid (15 = y) := by unfold Hid; rw [HZ.out]; omega
        clear HZ
        have hm1 : min z 15 = 15 := by omega
        have hm2 : (max 0 15 : Int) = 15 := by omega
        go_wp2_with (at_builtin; refine wpList_append_own _ rfl _ _ 22 rfl w.heap.size 3 i0 (.int .i64 0) 1 8 Try.underlying22 hi hz0 hz1 hz2 rfl (by decide) _ _ _ rfl (HO.out.alloc _) ⟨wr.heap.size, 0, none⟩ 1 1 [.int .i64 15] rfl rfl (cell_one_new _ _ _) ?c2 ?c3 ?c4 ?c5 ?_)
        case c2 => first | rfl | (intro u hu; simp at hu; subst hu; rfl)
        case c3 => unfold maxLen; omega
        case c4 => omega
        case c5 => first | omega | (rw [World.size_alloc]; omega)
        intro v8 w8 hown hg8 hne8
        obtain ⟨h8, b8⟩ := HSTEP.out 15 HY.out v8 w8 hown hg8
        have HO8 : Hid _ := h8
        have HB8 : Hid (Below w.heap.size w w8) := b8
        clear h8 b8 hown hg8 HSTEP HO HB
        go_wp2
        go_roundw
        case rel => exact ⟨k + 1, by omega, by omega, by go_num, HO8.out, hne8, HB8.out⟩
        case measure => simp [intOf]; omega
    · have hend : (k : Int) < (len : Int) → ¬ (k : Int) < 400 := fun h1 h2 => hlt ⟨by omega, by omega⟩
      obtain ⟨g, cp, rfl, hgc, hcm, hg, hcell⟩ := own_some hO hne
      have hyl : (clK zs k).length ≤ 400 := Nat.le_trans (clK_len zs k) hk2
      generalize clK zs k = ys at *
      have HS1 : Hid (Calls _ _ _ _ _) := steps_any g 0 cp ys wr hg hcell hgc hcm (by omega)
      have HS2 : Hid (∀ W, Below wr.heap.size wr W → Calls Try.prog 23 #[.slice (some ⟨g, 0, none⟩) ys.length cp] W fun e w' => ∃ v, e = .returned v ∧ w'.ownsRow W.heap.size 61 2 v (stpsF ys).length (stc (stpsF ys)) ∧ Below W.heap.size W w') := fun W hb => rsteps_any g 0 cp ys W (Nat.lt_of_lt_of_le hg hb.size) (fun i hi => by rw [hb.cell (p := ⟨g, 0 + i, none⟩) hg]; exact hcell i hi) (by omega)
      have hfl := stpsF_len ys
      generalize stpsF ys = ss at *
      have HB : Hid (Below w.heap.size w wr) := hB
      clear hcell hO hB hne hlt HRW
      have hcase : (¬ (k : Int) < (len : Int)) ∨ ((k : Int) < (len : Int) ∧ ¬ (k : Int) < 400) := by omega
      clear hend
      rcases hcase with hq | ⟨hq, hq2⟩
      · go_wp2_with fail
        refine (Hid.out HS1 : Calls _ _ _ _ _).mono ?_
        rintro e w1 ⟨v1, rfl, hO1, hb1⟩
        have HS2' := HS2.out _ hb1
        go_wp2_with fail
        refine HS2'.mono ?_
        rintro e w2 ⟨v2, rfl, hO2, hb2⟩
        have hS1 := (SR.own hO1).below hb2
        have hS2 := SR.own hO2
        have HB2 : Hid (Below w.heap.size w w2) := (HB.out.trans (hb1.mono hsz)).trans (hb2.mono (Nat.le_trans hsz hb1.size))
        clear HS1 HS2 HS2' HB hO1 hO2 hb1 hb2
        go_wp2_with fail
        refine (awake7_any _).mono ?_
        rintro e w3 ⟨rfl, hb3⟩
        have HB3 : Hid (Below w.heap.size w w3) := HB2.out.trans (hb3.mono HB2.out.size)
        obtain ⟨a1, c1, rfl, f1⟩ := hS1.below hb3
        obtain ⟨a2, c2, rfl, f2⟩ := hS2.below hb3
        have HF1 : Hid _ := f1
        have HF2 : Hid _ := f2
        clear hS1 hS2 f1 f2 hb3 HB2
        go_wp2
        go_loopw [43] (fun i wx => ∃ m d : Nat, m ≤ ss.length ∧ i = .int .i64 (m : Int) ∧ wx = w3.drewN d) (fun i _ => ss.length - (intOf i).toNat)
        case atStart => exact ⟨0, 0, by omega, rfl, rfl⟩
        case round =>
          rename_i wx hrel
          obtain ⟨m, d, hm, rfl, rfl⟩ := hrel
          have hm0 : (0 : Int) ≤ (m : Int) := by omega
          by_cases hml : m < ss.length
          · obtain ⟨s, hs⟩ : ∃ s, ss[m]? = some s := ⟨_, List.getElem?_eq_getElem hml⟩
            obtain ⟨g1, rfl, _, p1, p2⟩ := HF1.out m s hs
            obtain ⟨g2, rfl, _, q1, q2⟩ := HF2.out m s hs
            obtain ⟨sy, mo⟩ := s
            simp only at p1 p2 q1 q2
            have hmi : (m : Int) < (ss.length : Int) := by omega
            clear hs HF1 HF2
            go_wp2
            go_quiet (fail)
            go_wp2
            go_roundw
            case rel => exact ⟨m + 1, d + nq, by omega, by go_num, rfl⟩
            case measure => simp [intOf]; omega
          · obtain rfl : m = ss.length := by omega
            go_wp2
            go_ret
            exact ⟨rfl, below_drewN' HB3.out d⟩
      · go_wp2_with fail
        refine (Hid.out HS1 : Calls _ _ _ _ _).mono ?_
        rintro e w1 ⟨v1, rfl, hO1, hb1⟩
        have HS2' := HS2.out _ hb1
        go_wp2_with fail
        refine HS2'.mono ?_
        rintro e w2 ⟨v2, rfl, hO2, hb2⟩
        have hS1 := (SR.own hO1).below hb2
        have hS2 := SR.own hO2
        have HB2 : Hid (Below w.heap.size w w2) := (HB.out.trans (hb1.mono hsz)).trans (hb2.mono (Nat.le_trans hsz hb1.size))
        clear HS1 HS2 HS2' HB hO1 hO2 hb1 hb2
        go_wp2_with fail
        refine (awake7_any _).mono ?_
        rintro e w3 ⟨rfl, hb3⟩
        have HB3 : Hid (Below w.heap.size w w3) := HB2.out.trans (hb3.mono HB2.out.size)
        obtain ⟨a1, c1, rfl, f1⟩ := hS1.below hb3
        obtain ⟨a2, c2, rfl, f2⟩ := hS2.below hb3
        have HF1 : Hid _ := f1
        have HF2 : Hid _ := f2
        clear hS1 hS2 f1 f2 hb3 HB2
        go_wp2
        go_loopw [43] (fun i wx => ∃ m d : Nat, m ≤ ss.length ∧ i = .int .i64 (m : Int) ∧ wx = w3.drewN d) (fun i _ => ss.length - (intOf i).toNat)
        case atStart => exact ⟨0, 0, by omega, rfl, rfl⟩
        case round =>
          rename_i wx hrel
          obtain ⟨m, d, hm, rfl, rfl⟩ := hrel
          have hm0 : (0 : Int) ≤ (m : Int) := by omega
          by_cases hml : m < ss.length
          · obtain ⟨s, hs⟩ : ∃ s, ss[m]? = some s := ⟨_, List.getElem?_eq_getElem hml⟩
            obtain ⟨g1, rfl, _, p1, p2⟩ := HF1.out m s hs
            obtain ⟨g2, rfl, _, q1, q2⟩ := HF2.out m s hs
            obtain ⟨sy, mo⟩ := s
            simp only at p1 p2 q1 q2
            have hmi : (m : Int) < (ss.length : Int) := by omega
            clear hs HF1 HF2
            go_wp2
            go_quiet (fail)
            go_wp2
            go_roundw
            case rel => exact ⟨m + 1, d + nq, by omega, by go_num, rfl⟩
            case measure => simp [intOf]; omega
          · obtain rfl : m = ss.length := by omega
            go_wp2
            go_ret
            exact ⟨rfl, below_drewN' HB3.out d⟩
end Go.Proofs.Ytibnkpfginffhaa
