/- InflateLong: the walk. -/
import Derived.Test.YtibnkpfginffhaaLongM
import Derived.Test.YtibnkpfginffhaaAwake6
namespace Go.Proofs.Ytibnkpfginffhaa
open Go.RowKit
set_option linter.unusedVariables false
set_option linter.unusedSimpArgs false

/-- A bit as a number. -/
def bz (b : Bool) : Int := if b then 1 else 0
def bzL (L : List Bool) : List Int := L.map bz
theorem bzL_len (L : List Bool) : (bzL L).length = L.length := by simp [bzL]
theorem bzL_app (a b : List Bool) : ic (bzL (a ++ b)) = ic (bzL a) ++ ic (bzL b) := by simp [ic, bzL]
theorem bzL_at (L : List Bool) (i : Nat) (h : i < L.length) : (bzL L).getD i 0 = bz (L.getD i false) := by
  simp [bzL, List.getD_eq_getElem?_getD, h]
/-- The first n bytes of some bits, as cells. -/
def pkC (L : List Bool) (n : Nat) : List Value := (List.range n).map fun j => .int .u8 ((packB L j).toNat : Int)
theorem pkC_len (L : List Bool) (n : Nat) : (pkC L n).length = n := by simp [pkC]
theorem pkC_at (L : List Bool) (n j : Nat) (h : j < n) : (pkC L n)[j]? = some (.int .u8 ((packB L j).toNat : Int)) := by simp [pkC, h]
theorem pkC_new (L : List Bool) (k : Nat) (hk : k ≤ L.length) (h : k % 8 = 0) : pkC (L.take k) (k / 8) ++ [.int .u8 0] = pkC (L.take k) (k / 8 + 1) := by
  unfold pkC
  rw [List.range_succ, List.map_append, List.map_singleton, packB_past _ _ (by rw [List.length_take]; omega)]
  rfl
theorem pkC_set (L : List Bool) (k : Nat) (hk : k < L.length) : (pkC (L.take k) (k / 8 + 1)).set (k / 8) (.int .u8 ((packB (L.take (k + 1)) (k / 8)).toNat : Int)) = pkC (L.take (k + 1)) (k / 8 + 1) := by
  have e : L.take (k + 1) = L.take k ++ [L.getD k false] := by
    rw [List.take_add_one, List.getD_eq_getElem?_getD, List.getElem?_eq_getElem hk]; rfl
  apply List.ext_getElem?
  intro j
  rw [List.getElem?_set, pkC_len]
  by_cases hj : j < k / 8 + 1
  · by_cases h : k / 8 = j
    · subst h
      rw [if_pos rfl, if_pos (by omega), pkC_at _ _ _ hj]
    · rw [if_neg h, pkC_at _ _ _ hj, pkC_at _ _ _ hj, e, packB_other _ _ _ (by rw [List.length_take, Nat.min_eq_left (by omega)]; omega)]
  · rw [if_neg (by omega), List.getElem?_eq_none (by rw [pkC_len]; omega), List.getElem?_eq_none (by rw [pkC_len]; omega)]
theorem pkC_val (L : List Bool) (k : Nat) (hk : k < L.length) : (packB (L.take (k + 1)) (k / 8)).toNat = (packB (L.take k) (k / 8)).toNat ||| (L.getD k false).toNat * 2 ^ (k % 8) := by
  have e : L.take (k + 1) = L.take k ++ [L.getD k false] := by
    rw [List.take_add_one, List.getD_eq_getElem?_getD, List.getElem?_eq_getElem hk]; rfl
  have hl : (L.take k).length = k := by rw [List.length_take]; omega
  have := packB_same (L.take k) (L.getD k false)
  rw [hl] at this
  rw [e, this]
theorem pkC_whole (L : List Bool) : pkC L ((L.length + 7) / 8) = cs ((packS L).data.toList.map UInt8.toNat) := by
  rw [packS_data]
  unfold pkC packL cs
  simp
theorem own_two {w w' : World} {B B' n m sz sz' : Nat} {ty ty' : TypeId} {v u : Value} {xs ys : List Value} (h : w.ownsRow B ty sz v n xs) (k : w.ownsRow B' ty' sz' u m ys) (hne : ty ≠ ty') (hg : w.grownBy w' u.ownBlock) : w'.ownsRow B ty sz v n xs := by
  rcases h.2 with ⟨rfl, h0⟩ | ⟨g, cap, cur, rfl, _, hc, _⟩
  · exact ⟨h.1, .inl ⟨rfl, h0⟩⟩
  · refine h.kept hg (.inr fun e => ?_)
    rcases k.2 with ⟨rfl, _⟩ | ⟨g', cap', cur', rfl, _, hc', _⟩
    · simp [Value.ownBlock] at e
    · simp only [Value.ownBlock, Option.some.injEq] at e
      subst e
      rw [hc] at hc'
      simp only [Option.some.injEq, Obj.cells.injEq] at hc'
      exact hne hc'.2.1
theorem u8_put (x b r : Nat) (hx : x < 256) (hb : b ≤ 1) (hr : r < 8) : bits BinOp.or IntKind.u8 (x : Int) ((b : Int) * 2 ^ r % 256) = ((x ||| b * 2 ^ r : Nat) : Int) := by
  have h1 : b * 2 ^ r < 256 := by
    have : 2 ^ r ≤ 2 ^ 7 := Nat.pow_le_pow_right (by decide) (by omega)
    rcases (show b = 0 ∨ b = 1 by omega) with rfl | rfl <;> omega
  have h2 : ((b : Int) * 2 ^ r % 256) = ((b * 2 ^ r : Nat) : Int) := by
    rw [show ((b : Int) * 2 ^ r) = ((b * 2 ^ r : Nat) : Int) by simp]; omega
  rw [h2, u8_or_nat _ _ hx h1]
set_option maxHeartbeats 4000000 in
set_option maxRecDepth 100000 in
theorem lawInflateLong_walk (n0 most : Int) (w : World) (hn : -9223372036854775808 ≤ n0 ∧ n0 ≤ 9223372036854775807) (hm : -9223372036854775808 ≤ most ∧ most ≤ 9223372036854775807) :
    Calls Try.prog 5 #[.int .i64 n0, .int .i64 most] w fun e w' => e = .returned (.bool true) ∧ Below w.heap.size w w' := by
  obtain ⟨i0, hi, hz0, hz1, hz2⟩ := info_parts Try.infoI
  obtain ⟨j0, hj, hy0, hy1, hy2⟩ := info_parts Try.infoU8
  go_enter Try.func5, Try.ntmps5
  by_cases hb : n0 < 0 ∨ 400 < n0
  · rcases hb with hb | hb
    · go_wp2_with fail
      refine (awake6_any _).mono ?_
      rintro e w3 ⟨rfl, hb3⟩
      go_wp2
      go_ret
      exact ⟨rfl, hb3⟩
    · have hb0 : ¬ n0 < 0 := by omega
      go_wp2_with fail
      refine (awake6_any _).mono ?_
      rintro e w3 ⟨rfl, hb3⟩
      go_wp2
      go_ret
      exact ⟨rfl, hb3⟩
  · obtain ⟨n, rfl⟩ : ∃ n : Nat, n0 = (n : Int) := ⟨n0.toNat, by omega⟩
    have hb0 : ¬ (n : Int) < 0 := by omega
    have hb4 : ¬ (400 : Int) < (n : Int) := by omega
    have hn4 : n ≤ 400 := by omega
    clear hb hn
    have HO0 : Hid (((w.alloc (.cells #[] 5)).alloc (.cells #[.int .i64 1, .int .i64 1, .int .i64 0, .int .i64 0, .int .i64 0, .int .i64 1, .int .i64 1, .int .i64 0, .int .i64 0, .int .i64 0, .int .i64 0] 3)).ownsRow w.heap.size 3 1 (.slice (some ⟨w.heap.size + 1, 0, none⟩) 11 11) 11 (ic (bzL (long0 ++ reps 0)))) := by
      have := World.ownsRow_lit (base := w.heap.size) (e := 3) (size := 1) (w.alloc (.cells #[] 5)) #[.int .i64 1, .int .i64 1, .int .i64 0, .int .i64 0, .int .i64 0, .int .i64 1, .int .i64 1, .int .i64 0, .int .i64 0, .int .i64 0, .int .i64 0] 11 (by rw [World.size_alloc]; omega) (by decide) rfl
      rw [World.size_alloc] at this
      exact this
    have HR0 : Hid (((w.alloc (.cells #[] 5)).alloc (.cells #[.int .i64 1, .int .i64 1, .int .i64 0, .int .i64 0, .int .i64 0, .int .i64 1, .int .i64 1, .int .i64 0, .int .i64 0, .int .i64 0, .int .i64 0] 3)).ownsRow w.heap.size 5 1 (.slice (some ⟨w.heap.size, 0, none⟩) 0 0) 0 []) := (World.ownsRow_lit w #[] 0 (Nat.le_refl _) (by decide) rfl).alloc _
    have HB0 : Hid (Below w.heap.size w ((w.alloc (.cells #[] 5)).alloc (.cells #[.int .i64 1, .int .i64 1, .int .i64 0, .int .i64 0, .int .i64 0, .int .i64 1, .int .i64 1, .int .i64 0, .int .i64 0, .int .i64 0, .int .i64 0] 3))) := ((Below.refl _ w).alloc (Nat.le_refl _) _).alloc (by rw [World.size_alloc]; omega) _
    go_wp2
    generalize World.alloc (World.alloc w _) _ = W0 at *
    go_loopw [7, 8] (fun v i wr => ∃ k : Nat, k ≤ n ∧ i = .int .i64 (k : Int) ∧ wr.ownsRow w.heap.size 3 1 v (11 + 13 * k) (ic (bzL (long0 ++ reps k))) ∧ wr.ownsRow w.heap.size 5 1 (.slice (some ⟨w.heap.size, 0, none⟩) 0 0) 0 [] ∧ Below w.heap.size w wr) (fun _ i _ => n - (intOf i).toNat)
    case atStart => exact ⟨0, by omega, rfl, HO0.out, HR0.out, HB0.out⟩
    case round =>
      clear HO0 HR0 HB0
      obtain ⟨k, hk, rfl, hO, hRw, hB⟩ := hrel
      have hsz := hB.size
      by_cases hlt : k < n
      · have hli : (k : Int) < (n : Int) := by omega
        have HLS : Hid (long0 ++ reps (k + 1) = (long0 ++ reps k) ++ rep13) := by unfold Hid; rw [reps, List.append_assoc]
        have HN : Hid (∀ j u, (ic (bzL rep13))[j]? = some u → (wr.alloc (.cells #[.int .i64 1, .int .i64 1, .int .i64 0, .int .i64 0, .int .i64 0, .int .i64 1, .int .i64 0, .int .i64 1, .int .i64 0, .int .i64 0, .int .i64 0, .int .i64 0, .int .i64 0] 3)).cell? ((⟨wr.heap.size, 0, none⟩ : Addr).add j) = some u) := World.news_of_block (heap_alloc_new wr _)
        have HOA : Hid ((wr.alloc (.cells #[.int .i64 1, .int .i64 1, .int .i64 0, .int .i64 0, .int .i64 0, .int .i64 1, .int .i64 0, .int .i64 1, .int .i64 0, .int .i64 0, .int .i64 0, .int .i64 0, .int .i64 0] 3)).ownsRow w.heap.size 3 1 _ (11 + 13 * k) (ic (bzL (long0 ++ reps k)))) := hO.alloc _
        have HRA : Hid ((wr.alloc (.cells #[.int .i64 1, .int .i64 1, .int .i64 0, .int .i64 0, .int .i64 0, .int .i64 1, .int .i64 0, .int .i64 1, .int .i64 0, .int .i64 0, .int .i64 0, .int .i64 0, .int .i64 0] 3)).ownsRow w.heap.size 5 1 (.slice (some ⟨w.heap.size, 0, none⟩) 0 0) 0 []) := hRw.alloc _
        have HBA : Hid (Below w.heap.size w (wr.alloc (.cells #[.int .i64 1, .int .i64 1, .int .i64 0, .int .i64 0, .int .i64 0, .int .i64 1, .int .i64 0, .int .i64 1, .int .i64 0, .int .i64 0, .int .i64 0, .int .i64 0, .int .i64 0] 3))) := hB.alloc hsz _
        clear hO hRw hB
        go_wp2_with (at_builtin; refine wpList_append_own _ rfl _ _ 22 rfl w.heap.size 3 i0 (.int .i64 0) 1 8 Try.underlying22 hi hz0 hz1 hz2 rfl (by decide) _ _ _ rfl HOA.out ⟨wr.heap.size, 0, none⟩ 13 13 (ic (bzL rep13)) rfl rfl HN.out (ic_one _) ?c3 ?c4 ?c5 ?_)
        case c3 => unfold maxLen; omega
        case c4 => omega
        case c5 => first | omega | (rw [World.size_alloc]; omega)
        intro v8 w8 hown hg8 hne8
        have HO8 : Hid (w8.ownsRow w.heap.size 3 1 v8 (11 + 13 * k + 13) (ic (bzL (long0 ++ reps (k + 1))))) := by unfold Hid; rw [HLS.out, bzL_app]; exact hown
        have HR8 : Hid (w8.ownsRow w.heap.size 5 1 (.slice (some ⟨w.heap.size, 0, none⟩) 0 0) 0 []) := own_two HRA.out HOA.out (by decide) hg8
        have HB8 : Hid (Below w.heap.size w w8) := HBA.out.grown hg8 (by rw [World.size_alloc]; omega) (fun q hq => (HOA.out.lt q hq).1)
        clear hown hg8 HOA HRA HBA HN HLS
        go_wp2
        go_roundw
        case rel => exact ⟨k + 1, by omega, by go_num, HO8.out, HR8.out, HB8.out⟩
        case measure => simp [intOf]; omega
      · obtain rfl : k = n := by omega
        have HLS : Hid (longB k = (long0 ++ reps k) ++ long7) := rfl
        have HN : Hid (∀ j u, (ic (bzL long7))[j]? = some u → (wr.alloc (.cells #[.int .i64 0, .int .i64 0, .int .i64 0, .int .i64 0, .int .i64 0, .int .i64 0, .int .i64 0] 3)).cell? ((⟨wr.heap.size, 0, none⟩ : Addr).add j) = some u) := World.news_of_block (heap_alloc_new wr _)
        have HOA : Hid ((wr.alloc (.cells #[.int .i64 0, .int .i64 0, .int .i64 0, .int .i64 0, .int .i64 0, .int .i64 0, .int .i64 0] 3)).ownsRow w.heap.size 3 1 _ (11 + 13 * k) (ic (bzL (long0 ++ reps k)))) := hO.alloc _
        have HRA : Hid ((wr.alloc (.cells #[.int .i64 0, .int .i64 0, .int .i64 0, .int .i64 0, .int .i64 0, .int .i64 0, .int .i64 0] 3)).ownsRow w.heap.size 5 1 (.slice (some ⟨w.heap.size, 0, none⟩) 0 0) 0 []) := hRw.alloc _
        have HBA : Hid (Below w.heap.size w (wr.alloc (.cells #[.int .i64 0, .int .i64 0, .int .i64 0, .int .i64 0, .int .i64 0, .int .i64 0, .int .i64 0] 3))) := hB.alloc hsz _
        clear hO hRw hB
        go_wp2_with (at_builtin; refine wpList_append_own _ rfl _ _ 22 rfl w.heap.size 3 i0 (.int .i64 0) 1 8 Try.underlying22 hi hz0 hz1 hz2 rfl (by decide) _ _ _ rfl HOA.out ⟨wr.heap.size, 0, none⟩ 7 7 (ic (bzL long7)) rfl rfl HN.out (ic_one _) ?c3 ?c4 ?c5 ?_)
        case c3 => unfold maxLen; omega
        case c4 => omega
        case c5 => first | omega | (rw [World.size_alloc]; omega)
        intro v8 w8 hown hg8 hne8
        have HO8 : Hid (w8.ownsRow w.heap.size 3 1 v8 (11 + 13 * k + 7) (ic (bzL (longB k)))) := by unfold Hid; rw [HLS.out, bzL_app]; exact hown
        have HR8 : Hid (w8.ownsRow w.heap.size 5 1 (.slice (some ⟨w.heap.size, 0, none⟩) 0 0) 0 []) := own_two HRA.out HOA.out (by decide) hg8
        have HB8 : Hid (Below w.heap.size w w8) := HBA.out.grown hg8 (by rw [World.size_alloc]; omega) (fun q hq => (HOA.out.lt q hq).1)
        clear hown hg8 HOA HRA HBA HN HLS
        have hLL := longB_len k
        have HRD : Hid (∀ m : Nat, m ≤ 65536 → _) := fun m hm => long_reads k m hn4 hm
        have HLE : Hid ((longB k).length = 18 + 13 * k) := hLL
        generalize hLB : longB k = L at *
        clear hLB
        replace HO8 : Hid (w8.ownsRow w.heap.size 3 1 v8 L.length (ic (bzL L))) := by unfold Hid; rw [hLL, show 18 + 13 * k = 11 + 13 * k + 7 by omega]; exact HO8.out
        have hLm : L.length ≤ 5300 := by omega
        obtain ⟨ap, cp, rfl⟩ := own_slice HO8.out
        clear hLL
        go_wp2
        go_loopw [5, 6, 38] (fun r a i wr => ∃ m : Nat, m ≤ L.length ∧ a = .int .i64 (m : Int) ∧ i = .int .i64 (m : Int) ∧ wr.ownsRow w.heap.size 5 1 r ((m + 7) / 8) (pkC (L.take m) ((m + 7) / 8)) ∧ wr.ownsRow w.heap.size 3 1 (.slice ap L.length cp) L.length (ic (bzL L)) ∧ Below w.heap.size w wr) (fun _ _ i _ => L.length - (intOf i).toNat)
        case atStart => exact ⟨0, by omega, rfl, rfl, HR8.out, HO8.out, HB8.out⟩
        case round =>
          clear HO8 HR8 HB8
          obtain ⟨m, hm1, rfl, rfl, hO, hP, hB⟩ := hrel
          have hsz2 := hB.size
          by_cases hlt2 : m < L.length
          · have hmi : (m : Int) < (L.length : Int) := by omega
            have hm0 : (0 : Int) ≤ (m : Int) := by omega
            obtain ⟨gp, cp', e1⟩ : ∃ gp c, Value.slice ap L.length cp = .slice (some ⟨gp, 0, none⟩) L.length c := by
              rcases hP.2 with ⟨e, h0⟩ | ⟨g, c, _, e, _⟩
              · omega
              · exact ⟨g, c, e⟩
            simp only [Value.slice.injEq, true_and] at e1
            obtain ⟨rfl, rfl⟩ := e1
            have hcp := hP.cellAt m (by omega)
            rw [ic_at _ _ (by rw [bzL_len]; exact hlt2), bzL_at _ _ hlt2] at hcp
            have HSET : Hid (_ = _) := pkC_set L m hlt2
            have HVAL : Hid (_ = _) := pkC_val L m hlt2
            have hbN : (L.getD m false).toNat ≤ 1 := by cases L.getD m false <;> decide
            rw [show bz (L.getD m false) = ((L.getD m false).toNat : Int) by cases L.getD m false <;> rfl] at hcp
            generalize (L.getD m false).toNat = b at *
            by_cases h8 : m % 8 = 0
            · have h8i : ((m : Int) % 8 == 0) = true := by simp; omega
              have h8j : (m : Int) % 8 = 0 := by omega
              have HNEW : Hid (_ = _) := pkC_new L m hm1 h8
              have HOA : Hid ((wr.alloc (.cells #[.int .u8 0] 5)).ownsRow w.heap.size 5 1 u5 (m / 8) (pkC (L.take m) (m / 8))) := by
                have := hO.alloc (.cells #[.int .u8 0] 5)
                rw [show (m + 7) / 8 = m / 8 by omega] at this
                exact this
              have HPA : Hid ((wr.alloc (.cells #[.int .u8 0] 5)).ownsRow w.heap.size 3 1 (.slice (some ⟨gp, 0, none⟩) L.length cp) L.length (ic (bzL L))) := hP.alloc _
              have HBA : Hid (Below w.heap.size w (wr.alloc (.cells #[.int .u8 0] 5))) := hB.alloc hsz2 _
              clear hO hP hB
              go_wp2_with (at_builtin; refine wpList_append_own _ rfl _ _ 54 rfl w.heap.size 5 j0 (.int .u8 0) 1 1 Try.underlying54 hj hy0 hy1 hy2 rfl (by decide) _ _ _ rfl HOA.out ⟨wr.heap.size, 0, none⟩ 1 1 [.int .u8 0] rfl rfl (cell_one_new _ _ _) ?c2 ?c3 ?c4 ?c5 ?_)
              case c2 => first | rfl | (intro u hu; simp at hu; subst hu; rfl)
              case c3 => unfold maxLen; omega
              case c4 => omega
              case c5 => first | omega | (rw [World.size_alloc]; omega)
              intro v4 W4 hown hg4 hne4
              have hO2 : W4.ownsRow w.heap.size 5 1 v4 (m / 8 + 1) (pkC (L.take m) (m / 8 + 1)) := by rw [← HNEW.out]; exact hown
              have hP2 : W4.ownsRow w.heap.size 3 1 (.slice (some ⟨gp, 0, none⟩) L.length cp) L.length (ic (bzL L)) := own_two HPA.out HOA.out (by decide) hg4
              have hB2 : Below w.heap.size w W4 := HBA.out.grown hg4 (by rw [World.size_alloc]; omega) (fun q hq => (HOA.out.lt q hq).1)
              obtain ⟨gr, cr, rfl⟩ : ∃ g c, v4 = .slice (some ⟨g, 0, none⟩) (m / 8 + 1) c := by
                rcases hO2.2 with ⟨e, h0⟩ | ⟨g, c, _, e, _⟩
                · omega
                · exact ⟨g, c, e⟩
              clear hown hg4 HOA HPA HBA HNEW hne4
              have hcx := hO2.cellAt (m / 8) (by omega)
              rw [pkC_at _ _ _ (by omega)] at hcx
              have hfx := hO2.frozenAt (m / 8)
              have HST : Hid (((W4.setCell ⟨gr, m / 8, none⟩ (.int .u8 ((packB (L.take (m + 1)) (m / 8)).toNat : Int))).drew).ownsRow w.heap.size 5 1 (.slice (some ⟨gr, 0, none⟩) (m / 8 + 1) cr) ((m + 1 + 7) / 8) (pkC (L.take (m + 1)) ((m + 1 + 7) / 8))) := by
                have h1 := hO2.stored (m / 8) (.int .u8 ((packB (L.take (m + 1)) (m / 8)).toNat : Int))
                rw [HSET.out] at h1
                unfold Hid
                rw [show (m + 1 + 7) / 8 = m / 8 + 1 by omega]
                exact h1.1
              have HPT : Hid (((W4.setCell ⟨gr, m / 8, none⟩ (.int .u8 ((packB (L.take (m + 1)) (m / 8)).toNat : Int))).drew).ownsRow w.heap.size 3 1 (.slice (some ⟨gp, 0, none⟩) L.length cp) L.length (ic (bzL L))) := by
                have h1 := hO2.stored (m / 8) (.int .u8 ((packB (L.take (m + 1)) (m / 8)).toNat : Int))
                have h2 := own_two hP2 hO2 (by decide) h1.2
                exact h2
              have HBS : Hid (Below w.heap.size w ((W4.setCell ⟨gr, m / 8, none⟩ (.int .u8 ((packB (L.take (m + 1)) (m / 8)).toNat : Int))).drew)) := (hB2.setCell (p := ⟨gr, m / 8, none⟩) (hO2.lt gr rfl).1 _).drew
              rw [HVAL.out] at HST HPT HBS
              have hx256 : (packB (L.take m) (m / 8)).toNat < 256 := (packB (L.take m) (m / 8)).toNat_lt
              have HPUT : Hid (_ = _) := u8_put (packB (L.take m) (m / 8)).toNat b (m % 8) hx256 hbN (by omega)
              generalize (packB (L.take m) (m / 8)).toNat = X at *
              have q0 : (0 : Int) ≤ (m : Int) / 8 := by omega
              have q1 : (m : Int) / 8 < ((m / 8 + 1 : Nat) : Int) := by omega
              have q2 : ((m : Int) / 8).toNat = m / 8 := by omega
              have q3 : (0 : Int) ≤ (m : Int) % 8 := by omega
              have q4 : ((m : Int) % 8).toNat = m % 8 := by omega
              clear hO2 hP2 hB2 HSET HVAL
              have HV : Hid (bits BinOp.or IntKind.u8 (X : Int) (b : Int) = ((X ||| b * 2 ^ (m % 8) : Nat) : Int)) := by
                unfold Hid
                rw [← HPUT.out, h8, show ((b : Int) * 2 ^ 0 % 256) = (b : Int) by omega]
              clear HPUT
              go_wp2
              go_region
              rw [HV.out]
              generalize World.drew (World.setCell W4 _ _) = W5 at *
              go_wp2
              go_roundw
              case rel => exact ⟨m + 1, by omega, by go_num, by go_num, HST.out, HPT.out, HBS.out⟩
              case measure => simp [intOf]; omega
            · have h8i : ((m : Int) % 8 == 0) = false := by simp; omega
              have h8j : ¬ (m : Int) % 8 = 0 := by omega
              rw [show (m + 7) / 8 = m / 8 + 1 by omega] at hO
              obtain ⟨gr, cr, e5⟩ : ∃ g c, u5 = .slice (some ⟨g, 0, none⟩) (m / 8 + 1) c := by
                rcases hO.2 with ⟨e, h0⟩ | ⟨g, c, _, e, _⟩
                · omega
                · exact ⟨g, c, e⟩
              subst e5
              have hO2 := hO
              have hP2 := hP
              have hB2 := hB
              clear hO hP hB
              have hcx := hO2.cellAt (m / 8) (by omega)
              rw [pkC_at _ _ _ (by omega)] at hcx
              have hfx := hO2.frozenAt (m / 8)
              have HST : Hid (((wr.setCell ⟨gr, m / 8, none⟩ (.int .u8 ((packB (L.take (m + 1)) (m / 8)).toNat : Int))).drew).ownsRow w.heap.size 5 1 (.slice (some ⟨gr, 0, none⟩) (m / 8 + 1) cr) ((m + 1 + 7) / 8) (pkC (L.take (m + 1)) ((m + 1 + 7) / 8))) := by
                have h1 := hO2.stored (m / 8) (.int .u8 ((packB (L.take (m + 1)) (m / 8)).toNat : Int))
                rw [HSET.out] at h1
                unfold Hid
                rw [show (m + 1 + 7) / 8 = m / 8 + 1 by omega]
                exact h1.1
              have HPT : Hid (((wr.setCell ⟨gr, m / 8, none⟩ (.int .u8 ((packB (L.take (m + 1)) (m / 8)).toNat : Int))).drew).ownsRow w.heap.size 3 1 (.slice (some ⟨gp, 0, none⟩) L.length cp) L.length (ic (bzL L))) := by
                have h1 := hO2.stored (m / 8) (.int .u8 ((packB (L.take (m + 1)) (m / 8)).toNat : Int))
                have h2 := own_two hP2 hO2 (by decide) h1.2
                exact h2
              have HBS : Hid (Below w.heap.size w ((wr.setCell ⟨gr, m / 8, none⟩ (.int .u8 ((packB (L.take (m + 1)) (m / 8)).toNat : Int))).drew)) := (hB2.setCell (p := ⟨gr, m / 8, none⟩) (hO2.lt gr rfl).1 _).drew
              rw [HVAL.out] at HST HPT HBS
              have hx256 : (packB (L.take m) (m / 8)).toNat < 256 := (packB (L.take m) (m / 8)).toNat_lt
              have HPUT : Hid (_ = _) := u8_put (packB (L.take m) (m / 8)).toNat b (m % 8) hx256 hbN (by omega)
              generalize (packB (L.take m) (m / 8)).toNat = X at *
              have q0 : (0 : Int) ≤ (m : Int) / 8 := by omega
              have q1 : (m : Int) / 8 < ((m / 8 + 1 : Nat) : Int) := by omega
              have q2 : ((m : Int) / 8).toNat = m / 8 := by omega
              have q3 : (0 : Int) ≤ (m : Int) % 8 := by omega
              have q4 : ((m : Int) % 8).toNat = m % 8 := by omega
              clear hO2 hP2 hB2 HSET HVAL
              have HV : Hid (bits BinOp.or IntKind.u8 (X : Int) (wrap64 ((b : Int) * 2 ^ (m % 8)) % 256) = ((X ||| b * 2 ^ (m % 8) : Nat) : Int)) := by
                unfold Hid
                have h1 : b * 2 ^ (m % 8) < 256 := by
                  have : 2 ^ (m % 8) ≤ 2 ^ 7 := Nat.pow_le_pow_right (by decide) (by omega)
                  rcases (show b = 0 ∨ b = 1 by omega) with rfl | rfl <;> omega
                have h2 : wrap64 ((b : Int) * 2 ^ (m % 8)) = (b : Int) * 2 ^ (m % 8) := by
                  rw [show ((b : Int) * 2 ^ (m % 8)) = ((b * 2 ^ (m % 8) : Nat) : Int) by simp]
                  unfold wrap64; omega
                rw [h2, HPUT.out]
              clear HPUT
              go_wp2
              go_region
              rw [HV.out]
              generalize World.drew (World.setCell wr _ _) = W5 at *
              go_wp2
              go_roundw
              case rel => exact ⟨m + 1, by omega, by go_num, by go_num, HST.out, HPT.out, HBS.out⟩
              case measure => simp [intOf]; omega
          · obtain rfl : m = L.length := by omega
            rw [List.take_length] at hO
            have hWH := pkC_whole L
            rw [hWH] at hO
            have hcv := conv_bs (P := Try.prog) (dst := 9) Try.underlying54 Try.underlying5 Try.underlying9 hO
            rw [show bs ((packS L).data.toList.map UInt8.toNat) = packS L from bs_nb _] at hcv
            obtain ⟨ar, cr, e5⟩ := own_slice hO
            subst e5
            have HB9 : Hid (Below w.heap.size w wr) := hB
            have HPS : Hid _ := packS_size L
            have HSX : Hid (packS L = (packS L).extract 0 (packS L).size) := by unfold Hid; simp
            clear hO hP hB hWH
            by_cases hmb : most < 0 ∨ 65536 < most
            · have HIB : Hid (Calls _ _ _ _ _) := inflate_bad (packS L) 0 most wr (.inr (.inr hmb))
              generalize packS L = S at *
              clear HSX HPS HRD
              go_wp2_with fail
              refine (Hid.out HIB : Calls _ _ _ _ _).mono ?_
              rintro e w9 ⟨rfl, rfl⟩
              rcases hmb with hmb | hmb
              · go_wp2_with fail
                refine (awake6_any _).mono ?_
                rintro e w10 ⟨rfl, hb10⟩
                have HBZ := HB9.out.trans (hb10.mono HB9.out.size)
                go_wp2
                go_ret
                exact ⟨rfl, HBZ⟩
              · have hm0' : ¬ most < 0 := by omega
                go_wp2_with fail
                refine (awake6_any _).mono ?_
                rintro e w10 ⟨rfl, hb10⟩
                have HBZ := HB9.out.trans (hb10.mono HB9.out.size)
                go_wp2
                go_ret
                exact ⟨rfl, HBZ⟩
            · obtain ⟨mo, rfl⟩ : ∃ n : Nat, most = (n : Int) := ⟨most.toNat, by omega⟩
              have hmo : mo ≤ 65536 := by omega
              have hq1 : ¬ (mo : Int) < 0 := by omega
              have hq2 : ¬ (65536 : Int) < (mo : Int) := by omega
              have HIG : Hid (Calls _ _ _ _ _) := inflate_good (packS L) (packS L) 0 mo _ wr (Nat.zero_le _) hmo (by rw [HPS.out]; omega) HSX.out (HRD.out mo hmo)
              generalize packS L = S at *
              clear hmb HRD HSX HPS
              by_cases hbig : mo < 1 + 258 * k
              · rw [if_pos hbig] at HIG
                have hbi : (mo : Int) < 1 + 258 * (k : Int) := by omega
                go_wp2_with fail
                refine (Hid.out HIG : Calls _ _ _ _ _).mono ?_
                rintro e w9 (⟨l, q, hr, _⟩ | ⟨er, hr, _, rfl, hb9⟩)
                · cases hr
                · obtain rfl : er = 2 := by cases hr; rfl
                  have HBZ := HB9.out.trans (hb9.mono HB9.out.size)
                  go_wp2_with fail
                  refine (awake6_any _).mono ?_
                  rintro e w10 ⟨rfl, hb10⟩
                  have HBZ2 := HBZ.trans (hb10.mono HBZ.size)
                  go_wp2
                  go_ret
                  exact ⟨rfl, HBZ2⟩
              · rw [if_neg hbig] at HIG
                have hbi : ¬ (mo : Int) < 1 + 258 * (k : Int) := by omega
                go_wp2_with fail
                refine (Hid.out HIG : Calls _ _ _ _ _).mono ?_
                rintro e w9 (⟨l, q, hr, rfl, _, hb9⟩ | ⟨er, hr, _⟩)
                · obtain ⟨rfl, rfl⟩ : l = [⟨1, [], longT k⟩] ∧ q = 18 + 13 * k := by
                    simp only [Except.ok.injEq, Prod.mk.injEq] at hr
                    exact ⟨hr.1.symm, hr.2.symm⟩
                  rw [jkP_long, exp_long _ k (by omega)]
                  have hsz5 := bs_size2 (List.replicate (1 + 258 * k) 0)
                  rw [List.length_replicate] at hsz5
                  have HBY : Hid (∀ i, i < 1 + 258 * k → byt (bs (List.replicate (1 + 258 * k) 0)) i = 0) := fun i hi => by
                    unfold byt
                    rw [bs_data2, List.map_replicate, List.getD_eq_getElem?_getD, List.getElem?_replicate, if_pos hi]; rfl
                  simp only
                  generalize bs (List.replicate (1 + 258 * k) 0) = S0 at *
                  have HBZ : Hid (Below w.heap.size w w9) := HB9.out.trans (hb9.mono HB9.out.size)
                  have hsi : (S0.size : Int) = 1 + 258 * (k : Int) := by omega
                  have hki : (((18 + 13 * k + 7) / 8 : Nat) : Int) = (((L.length + 7) / 8 : Nat) : Int) := by rw [HLE.out]
                  clear hr hb9 HIG HB9
                  go_wp2
                  clear hsi hki
                  go_loop [15] (fun i => ∃ j : Nat, j ≤ S0.size ∧ i = .int .i64 (j : Int)) (fun i => S0.size - (intOf i).toNat)
                  case atStart => exact ⟨0, by omega, rfl⟩
                  case round =>
                    obtain ⟨j, hj1, rfl⟩ := hrel
                    by_cases hj2 : j < S0.size
                    · have hji : (j : Int) < (S0.size : Int) := by omega
                      have hj0 : (0 : Int) ≤ (j : Int) := by omega
                      have hby := byt_eq S0 j hj2
                      rw [HBY.out j (by omega)] at hby
                      have hSb : S0.size ≤ 200000 := by omega
                      clear hsz5
                      go_wp2
                      go_round
                      case rel => exact ⟨j + 1, by omega, by go_num⟩
                      case measure => simp [intOf]; omega
                    · obtain rfl : j = S0.size := by omega
                      clear hsz5
                      go_wp2_with fail
                      refine (awake6_any _).mono ?_
                      rintro e w10 ⟨rfl, hb10⟩
                      have HBZ2 := HBZ.out.trans (hb10.mono HBZ.out.size)
                      go_wp2
                      go_ret
                      exact ⟨rfl, HBZ2⟩
                · cases hr
end Go.Proofs.Ytibnkpfginffhaa
