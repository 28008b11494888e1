/- Contract of Join. -/
import Derived.Test.YtibnkpfginffhacInfJ
import Derived.Laws.AppendOwnNone
namespace Go.Proofs.Ytibnkpfginffhac
open Go.RowKit
set_option linter.unusedVariables false

/-- The tokens of blocks: a stored block's bytes as tokens. -/
def btk (x : Item) : List Tok := tok0 x.2.1 ++ x.1.toks
def jtk (l : List Item) : List Tok := l.flatMap btk
theorem jtk_take (l : List Item) (k : Nat) (x : Item) (h : l[k]? = some x) : jtk (l.take (k + 1)) = jtk (l.take k) ++ btk x := by
  unfold jtk
  rw [List.take_add_one, h, List.flatMap_append]
  simp
theorem jtk_le (l : List Item) (k : Nat) : (jtk (l.take k)).length ≤ (jtk l).length := by
  have h : jtk l = jtk (l.take k) ++ jtk (l.drop k) := by
    unfold jtk; rw [← List.flatMap_append, List.take_append_drop]
  rw [h, List.length_append]; omega
theorem bcs_at : ∀ (l : List Item) (i : Nat) (x : Item), l[i]? = some x → (bcs l)[i * 3]? = some (.int .i64 (x.1.kind : Int)) ∧ (bcs l)[i * 3 + 1]? = some (.string x.2.1) ∧ (bcs l)[i * 3 + 2]? = some x.2.2
  | [], i, x, h => by simp at h
  | y :: l, 0, x, h => by
    simp only [List.getElem?_cons_zero, Option.some.injEq] at h
    subst h
    exact ⟨rfl, rfl, rfl⟩
  | y :: l, i + 1, x, h => by
    simp only [List.getElem?_cons_succ] at h
    obtain ⟨h1, h2, h3⟩ := bcs_at l i x h
    have e : bcs (y :: l) = [.int .i64 (y.1.kind : Int), .string y.2.1, y.2.2] ++ bcs l := by unfold bcs; rw [List.flatMap_cons]
    rw [e]
    refine ⟨?_, ?_, ?_⟩
    · rw [List.getElem?_append_right (by simp; omega)]; simpa [show (i + 1) * 3 - 3 = i * 3 by omega] using h1
    · rw [List.getElem?_append_right (by simp; omega)]; simpa [show (i + 1) * 3 + 1 - 3 = i * 3 + 1 by omega] using h2
    · rw [List.getElem?_append_right (by simp; omega)]; simpa [show (i + 1) * 3 + 2 - 3 = i * 3 + 2 by omega] using h3
theorem tcs_app (a b : List Tok) : tcs (a ++ b) = tcs a ++ tcs b := by unfold tcs; rw [List.flatMap_append]
theorem tcs_one (ts : List Tok) : ∀ u ∈ tcs ts, u.oneCell' = true := by
  intro u hu
  unfold tcs at hu
  obtain ⟨t, _, ht⟩ := List.mem_flatMap.1 hu
  exact three_oneU _ _ _ u ht
set_option maxRecDepth 100000 in
set_option maxHeartbeats 4000000 in
theorem join_any (B : Nat) (v : Value) (l : List Item) (w : World) (hO : BRow w B v l) (hl : (jtk l).length ≤ 1000000) (hll : l.length ≤ 1000000000) :
    Calls Try.prog 32 #[v] w fun e w' => e = .returned (.string (bs (expF 9223372036854775807 (jtk l) []).1)) ∧ Below w.heap.size w w' := by
  obtain ⟨i0, hi, hz0, hz1, hz2⟩ := info_parts Try.infoTk
  obtain ⟨av, cv, rfl⟩ := own_slice hO.1
  have HBR : Hid (BRow w B (.slice av l.length cv) l) := hO
  clear hO
  go_enter Try.func32, Try.ntmps32
  go_wp2
  go_loopw [3, 11] (fun a i wr => ∃ k : Nat, k ≤ l.length ∧ i = .int .i64 (k : Int) ∧ wr.ownsRow w.heap.size 57 3 a (jtk (l.take k)).length (tcs (jtk (l.take k))) ∧ Below w.heap.size w wr) (fun _ i _ => l.length - (intOf i).toNat)
  case atStart => exact ⟨0, by omega, rfl, World.ownsRow_nil _ _ _ _, Below.refl _ _⟩
  case round =>
    obtain ⟨k, hk, rfl, hO, hB⟩ := hrel
    have hsz := hB.size
    by_cases hlt : k < l.length
    · obtain ⟨⟨b, t, tv⟩, hx⟩ : ∃ x, l[k]? = some x := ⟨_, List.getElem?_eq_getElem hlt⟩
      obtain ⟨hbr, hit⟩ := HBR.out
      have hitem := hit _ (List.mem_of_getElem? hx)
      obtain ⟨hby, hto⟩ := hitem
      simp only at hby hto
      obtain ⟨ta, tc, rfl⟩ := own_slice hto
      obtain ⟨g, cap, hform, hgB, hcap, hgs⟩ := own_form hbr (by omega)
      simp only [Value.slice.injEq, true_and] at hform
      obtain ⟨rfl, rfl⟩ := hform
      obtain ⟨c0, c1, c2⟩ := bcs_at l k _ hx
      rw [← hbr.cellAt (k * 3) (by omega), ← hB.cell (p := ⟨g, k * 3, none⟩) hgs] at c0
      rw [← hbr.cellAt (k * 3 + 1) (by omega), ← hB.cell (p := ⟨g, k * 3 + 1, none⟩) hgs] at c1
      rw [← hbr.cellAt (k * 3 + 2) (by omega), ← hB.cell (p := ⟨g, k * 3 + 2, none⟩) hgs] at c2
      simp only at c0 c1 c2
      have HTO : Hid (w.ownsRow B 57 3 (.slice ta b.toks.length tc) b.toks.length (tcs b.toks)) := hto
      have HJ : Hid (jtk (l.take (k + 1)) = jtk (l.take k) ++ (tok0 t ++ b.toks)) := jtk_take l k _ hx
      have hjl : (jtk (l.take k)).length + t.size + b.toks.length ≤ 1000000 := by
        have h1 := jtk_le l (k + 1)
        rw [HJ.out, List.length_append, List.length_append, tok0_len] at h1
        omega
      have hki : (k : Int) < (l.length : Int) := by omega
      have hki0 : (0 : Int) ≤ (k : Int) := by omega
      obtain ⟨ao, co, rfl⟩ := own_slice hO
      have hA : Below wr.heap.size wr (wr.alloc (.cells #[.int .i64 (b.kind : Int), .string t, .slice ta b.toks.length tc] 107)) := (Below.refl _ wr).alloc (Nat.le_refl _) _
      have HO0 : Hid ((wr.alloc (.cells #[.int .i64 (b.kind : Int), .string t, .slice ta b.toks.length tc] 107)).ownsRow w.heap.size 57 3 (.slice ao (jtk (l.take k)).length co) (jtk (l.take k)).length (tcs (jtk (l.take k)))) := hO.alloc _
      have HB0 : Hid (Below w.heap.size w (wr.alloc (.cells #[.int .i64 (b.kind : Int), .string t, .slice ta b.toks.length tc] 107))) := hB.trans (hA.mono hsz)
      have HN0 : Hid ((wr.alloc (.cells #[.int .i64 (b.kind : Int), .string t, .slice ta b.toks.length tc] 107)).heap[wr.heap.size]? = some (.cells #[.int .i64 (b.kind : Int), .string t, .slice ta b.toks.length tc] 107 (0, 0))) := heap_alloc_new wr _
      clear hbr hit hby hto hx hO hB hA
      generalize hJl : jtk (l.take k) = J at *
      go_wp2
      clear c0 c1 c2
      generalize World.alloc wr _ = W0 at *
      generalize wr.heap.size = gb at *
      go_loopw [3, 18] (fun a i wq => ∃ j : Nat, j ≤ t.size ∧ i = .int .i64 (j : Int) ∧ wq.ownsRow w.heap.size 57 3 a (J.length + j) (tcs (J ++ (tok0 t).take j)) ∧ wq.heap[gb]? = some (.cells #[.int .i64 (b.kind : Int), .string t, .slice ta b.toks.length tc] 107 (0, 0)) ∧ Below w.heap.size w wq) (fun _ i _ => t.size - (intOf i).toNat)
      case atStart => exact ⟨0, by omega, rfl, by rw [List.take_zero, List.append_nil]; exact HO0.out, HN0.out, HB0.out⟩
      case round =>
        clear HO0 HN0 HB0
        obtain ⟨j, hj, rfl, hO, hN, hB⟩ := hrel
        obtain ⟨d0, d1, d2, _, _, _⟩ := tok_cell hN
        have hszq := hB.size
        by_cases hjt : j < t.size
        · have HTK : Hid ((tok0 t).take (j + 1) = (tok0 t).take j ++ [⟨byt t j, 0, 0⟩]) := tok0_take t j hjt
          have hbe := byt_eq t j hjt
          have h3n := three_newU wr ⟨byt t j, 0, 0⟩ 57
          simp only at h3n
          have HN3 : Hid _ := h3n
          have hji : (j : Int) < (t.size : Int) := by omega
          have hji0 : (0 : Int) ≤ (j : Int) := by omega
          have HNQ : Hid (wr.heap[gb]? = some (.cells #[.int .i64 (b.kind : Int), .string t, .slice ta b.toks.length tc] 107 (0, 0))) := hN
          clear h3n hN
          go_wp2_with (at_builtin; refine wpList_append_own _ rfl _ _ 51 rfl w.heap.size 57 i0 (.agg #[.int .u8 0, .int .i64 0, .int .i64 0]) 3 24 Try.underlying51 hi hz0 hz1 hz2 rfl (by decide) _ _ _ rfl (hO.alloc _) ⟨wr.heap.size, 0, none⟩ 1 1 [.int .u8 (byt t j : Int), .int .i64 0, .int .i64 0] rfl rfl HN3.out ?c2 ?c3 ?c4 ?c5 ?_)
          case c2 => intro y hy; simp at hy; rcases hy with rfl | rfl <;> rfl
          case c3 => unfold maxLen; omega
          case c4 => omega
          case c5 => rw [World.size_alloc]; omega
          intro v8 w8 hown hg _
          have HO8 : Hid (w8.ownsRow w.heap.size 57 3 v8 (J.length + (j + 1)) (tcs (J ++ (tok0 t).take (j + 1)))) := by unfold Hid; rw [HTK.out, ← List.append_assoc, tcs_snoc]; exact hown
          have HB8 : Hid (Below w.heap.size w w8) := (hB.alloc hszq _).grown hg (by rw [World.size_alloc]; omega) (fun q hq => (hO.lt q hq).1)
          have HN8 : Hid (w8.heap[gb]? = some (.cells #[.int .i64 (b.kind : Int), .string t, .slice ta b.toks.length tc] 107 (0, 0))) := (k1_app (hO.alloc _) hg).2 _ _ _ _ ((ks_alloc _ _).2 _ _ _ _ HNQ.out (by decide) (by decide)) (by decide)
          clear hown hg hO hB HNQ d0 d1 d2
          go_wp2
          go_roundw
          case rel => exact ⟨j + 1, by omega, by go_num, HO8.out, HN8.out, HB8.out⟩
          case measure => simp [intOf]; omega
        · obtain rfl : j = t.size := by omega
          rw [List.take_of_length_le (by rw [tok0_len]; exact Nat.le_refl _)] at hO
          rcases HTO.out.2 with ⟨hv, hz⟩ | ⟨gt, ct, cur, hv, hgt, hh, hcc, hcm, hcs, htk⟩
          · have htl : b.toks = [] := List.eq_nil_of_length_eq_zero hz
            simp only [Value.slice.injEq] at hv
            obtain ⟨rfl, _, rfl⟩ := hv
            rw [hz] at d2
            obtain ⟨a9, c9, rfl⟩ := own_slice hO
            have HO9 : Hid (wr.ownsRow w.heap.size 57 3 (.slice a9 (J.length + t.size) c9) (jtk (l.take (k + 1))).length (tcs (jtk (l.take (k + 1))))) := by
              unfold Hid; rw [HJ.out, htl, List.append_nil, List.length_append, tok0_len]; exact hO
            have HB9 : Hid (Below w.heap.size w wr) := hB
            clear hN hB
            go_wp2_with (at_builtin; refine wpList_append_own_none rfl _ _ 51 rfl w.heap.size 57 i0 3 Try.underlying51 hi _ _ _ rfl hO rfl ?_)
            clear hO d0 d1 d2
            go_wp2
            go_roundw
            case rel => exact ⟨k + 1, by omega, by go_num, HO9.out, HB9.out⟩
            case measure => simp [intOf]; omega
          · simp only [Value.slice.injEq, true_and] at hv
            obtain ⟨rfl, rfl⟩ := hv
            have HNW : Hid (∀ i u, (tcs b.toks)[i]? = some u → wr.cell? ((⟨gt, 0, none⟩ : Addr).add i) = some u) := by
              intro i u hu
              have hc := HTO.out.cells (g := gt) rfl i u hu
              have hadd : (⟨gt, 0, none⟩ : Addr).add i = ⟨gt, i, none⟩ := by unfold Addr.add; split <;> simp_all
              rw [hadd] at hc ⊢
              rw [hB.cell (p := ⟨gt, i, none⟩) (Array.getElem?_eq_some_iff.1 hh).1]; exact hc
            have HTL : Hid ((tcs b.toks).length = b.toks.length * 3) := tcs_len _
            have HB9 : Hid (Below w.heap.size w wr) := hB
            clear hN hB hh hcs htk hcc hcm hgt
            go_wp2_with (at_builtin; refine wpList_append_own _ rfl _ _ 51 rfl w.heap.size 57 i0 (.agg #[.int .u8 0, .int .i64 0, .int .i64 0]) 3 24 Try.underlying51 hi hz0 hz1 hz2 rfl (by decide) _ _ _ rfl hO ⟨gt, 0, none⟩ b.toks.length _ (tcs b.toks) rfl HTL.out HNW.out (tcs_one _) ?c3 ?c4 ?c5 ?_)
            case c3 => unfold maxLen; omega
            case c4 => omega
            case c5 => omega
            intro v8 w8 hown hg _
            have HO8 : Hid (w8.ownsRow w.heap.size 57 3 v8 (jtk (l.take (k + 1))).length (tcs (jtk (l.take (k + 1))))) := by
              unfold Hid; rw [HJ.out, ← List.append_assoc, tcs_app, List.length_append, List.length_append, tok0_len]; exact hown
            have HB8 : Hid (Below w.heap.size w w8) := HB9.out.grown hg (by omega) (fun q hq => (hO.lt q hq).1)
            clear hown hg hO HB9 d0 d1 d2
            go_wp2
            go_roundw
            case rel => exact ⟨k + 1, by omega, by go_num, HO8.out, HB8.out⟩
            case measure => simp [intOf]; omega
    · obtain rfl : k = l.length := by omega
      rw [List.take_length] at hO
      have HE : Hid (Calls _ _ _ _ _) := expand_any _ (jtk l) 9223372036854775807 wr (TR.own hO) (by omega) (by decide) (by decide)
      have HB : Hid (Below w.heap.size w wr) := hB
      obtain ⟨ao, co, rfl⟩ := own_slice hO
      clear hO hB
      go_wp2_with fail
      refine (Hid.out HE : Calls _ _ _ _ _).mono ?_
      rintro e w9 ⟨rfl, hb9⟩
      have HB9 : Hid (Below w.heap.size w w9) := HB.out.trans (hb9.mono hsz)
      clear HE hb9
      go_wp2
      go_ret
      exact ⟨rfl, HB9.out⟩
end Go.Proofs.Ytibnkpfginffhac
