/- Contract of huff.pairs. -/
import Derived.Test.YtclmjopppaknjaaIntR
import Derived.Test.YtclmjopppaknjaaPkgM
import Derived.Deep.RegionHeldLaw
import Derived.Deep.AppendLies
import Derived.Deep.QuietTactic
import Derived.BigQuiet
namespace Go.Proofs.Ytclmjopppaknjaa
open Go.RowKit
set_option linter.unusedVariables false

/-- Items as cells. -/
def itC (l : List Itm) : List Value := l.flatMap fun x => [.int .i64 (x.wt : Int), .bool x.one]
theorem itC_snoc (l : List Itm) (x : Itm) : itC (l ++ [x]) = itC l ++ [.int .i64 (x.wt : Int), .bool x.one] := by simp [itC]
theorem itC_len (l : List Itm) : (itC l).length = l.length * 2 := by
  induction l with
  | nil => rfl
  | cons a l ih => rw [itC, List.flatMap_cons, List.length_append, ← itC, ih]; simp; omega
theorem itC_at : ∀ (l : List Itm) (i : Nat) (s : Itm), l[i]? = some s → (itC l)[i * 2]? = some (.int .i64 (s.wt : Int)) ∧ (itC l)[i * 2 + 1]? = some (.bool s.one)
  | [], i, s, h => by simp at h
  | a :: l, 0, s, h => by
    simp at h; subst h
    exact ⟨rfl, rfl⟩
  | a :: l, i + 1, s, h => by
    have ih := itC_at l i s (by simpa using h)
    have e : itC (a :: l) = .int .i64 (a.wt : Int) :: .bool a.one :: itC l := rfl
    rw [e, show (i + 1) * 2 = i * 2 + 1 + 1 by omega, show i * 2 + 1 + 1 + 1 = (i * 2 + 1) + 1 + 1 by omega]
    exact ih
/-- A row of items in memory. -/
def PR (w : World) (v : Value) (l : List Itm) : Prop := ∃ a cap, v = .slice a l.length cap ∧ l.length ≤ cap ∧ ∀ i s, l[i]? = some s → ∃ g, a = some ⟨g, 0, none⟩ ∧ g < w.heap.size ∧ w.cell? ⟨g, i * 2, none⟩ = some (.int .i64 (s.wt : Int)) ∧ w.cell? ⟨g, i * 2 + 1, none⟩ = some (.bool s.one)
theorem PR.own {w : World} {B : Nat} {ty : TypeId} {v : Value} {l : List Itm} (h : w.ownsRow B ty 2 v l.length (itC l)) : PR w v l := by
  have hlt := h.lt
  have h' := h
  rcases h.2 with ⟨rfl, h0⟩ | ⟨g, cap, cur, rfl, _, _, hc, _⟩
  · have : l = [] := List.length_eq_zero_iff.1 h0
    subst this
    exact ⟨none, 0, rfl, Nat.le_refl _, fun i s hi => by simp at hi⟩
  · refine ⟨_, cap, rfl, hc, fun i s hi => ⟨g, rfl, (hlt g rfl).2, ?_⟩⟩
    have hl : i < l.length := (List.getElem?_eq_some_iff.1 hi).1
    have hs := itC_at l i s hi
    have hlen := itC_len l
    exact ⟨by rw [h'.cellAt (i * 2) (by omega), hs.1], by rw [h'.cellAt (i * 2 + 1) (by omega), hs.2]⟩
theorem PR.below {w w' : World} {v : Value} {l : List Itm} (h : PR w v l) (hb : Below w.heap.size w w') : PR w' v l := by
  obtain ⟨a, cap, rfl, hc, hf⟩ := h
  refine ⟨a, cap, rfl, hc, fun i s hi => ?_⟩
  obtain ⟨g, rfl, hg, h1, h2⟩ := hf i s hi
  exact ⟨g, rfl, Nat.lt_of_lt_of_le hg hb.size, by rw [hb.cell (p := ⟨g, i * 2, none⟩) hg]; exact h1, by rw [hb.cell (p := ⟨g, i * 2 + 1, none⟩) hg]; exact h2⟩
/-- Numbers as integers. -/
def zN (l : List Nat) : List Int := l.map fun n : Nat => (n : Int)
theorem zN_len (l : List Nat) : (zN l).length = l.length := by simp [zN]
theorem prs_take : ∀ (l : List Itm) (k : Nat) (x y : Itm), l[2 * k]? = some x → l[2 * k + 1]? = some y → (prs l).take (k + 1) = (prs l).take k ++ [x.wt + y.wt]
  | [], k, x, y, h, _ => by simp at h
  | [a], k, x, y, _, h => by simp at h
  | a :: b :: l, 0, x, y, h, h2 => by
    simp at h h2; subst h; subst h2; rw [prs]; simp
  | a :: b :: l, k + 1, x, y, h, h2 => by
    have := prs_take l k x y (by rw [show 2 * (k + 1) = 2 * k + 1 + 1 by omega] at h; simpa using h) (by rw [show 2 * (k + 1) + 1 = 2 * k + 1 + 1 + 1 by omega] at h2; simpa using h2)
    rw [prs, List.take_succ_cons, this, List.take_succ_cons]; rfl
set_option maxRecDepth 100000 in
set_option maxHeartbeats 1000000 in
theorem pairs_any (v : Value) (l : List Itm) (w : World) (hR : PR w v l) (hl : l.length ≤ 1000000) (hw : ∀ x ∈ l, x.wt ≤ 1000000000000000000) :
    Calls Try.prog 68 #[v] w fun e w' => ∃ v', e = .returned v' ∧ w'.ownsRow w.heap.size 3 1 v' (prs l).length (ic (zN (prs l))) ∧ Below w.heap.size w w' := by
  obtain ⟨i0, hi, hz0, hz1, hz2⟩ := info_parts Try.infoI
  obtain ⟨a, cap, rfl, hcp, hf⟩ := hR
  have HF : Hid (∀ i s, l[i]? = some s → ∃ g, a = some ⟨g, 0, none⟩ ∧ g < w.heap.size ∧ w.cell? ⟨g, i * 2, none⟩ = some (.int .i64 (s.wt : Int)) ∧ w.cell? ⟨g, i * 2 + 1, none⟩ = some (.bool s.one)) := hf
  have HW : Hid (∀ x ∈ l, x.wt ≤ 1000000000000000000) := hw
  have hpl := prs_len l
  clear hf hw
  go_enter Try.func68, Try.ntmps68
  go_wp2
  go_loopw [3, 4] (fun v i wr => ∃ k : Nat, 2 * k ≤ l.length ∧ i = .int .i64 ((2 * k + 1 : Nat) : Int) ∧ wr.ownsRow w.heap.size 3 1 v k (ic (zN ((prs l).take k))) ∧ Below w.heap.size w wr) (fun _ i _ => l.length + 3 - (intOf i).toNat)
  case atStart => exact ⟨0, by omega, rfl, World.ownsRow_nil _ _ _ _, Below.refl _ _⟩
  case round =>
    obtain ⟨k, hk, rfl, hO, hB⟩ := hrel
    have hsz := hB.size
    by_cases hlt : 2 * k + 1 < l.length
    · obtain ⟨x, hx⟩ : ∃ x, l[2 * k]? = some x := ⟨_, List.getElem?_eq_getElem (by omega)⟩
      obtain ⟨y, hy⟩ : ∃ y, l[2 * k + 1]? = some y := ⟨_, List.getElem?_eq_getElem hlt⟩
      obtain ⟨g, rfl, hg, cx, _⟩ := HF.out _ _ hx
      obtain ⟨g', e', _, cy, _⟩ := HF.out _ _ hy
      obtain rfl : g = g' := by simpa using e'
      rw [← hB.cell (p := ⟨g, 2 * k * 2, none⟩) hg] at cx
      rw [← hB.cell (p := ⟨g, (2 * k + 1) * 2, none⟩) hg] at cy
      have hxw := HW.out x (List.mem_of_getElem? hx)
      have hyw := HW.out y (List.mem_of_getElem? hy)
      have HTK : Hid (ic (zN ((prs l).take (k + 1))) = ic (zN ((prs l).take k)) ++ [.int .i64 ((x.wt : Int) + (y.wt : Int))]) := by
        unfold Hid; rw [prs_take l k x y hx hy]; simp [ic, zN]
      obtain ⟨xw, xo⟩ := x
      obtain ⟨yw, yo⟩ := y
      simp only at cx cy hxw hyw HTK
      obtain ⟨j, hj⟩ : ∃ j, j = 2 * k := ⟨_, rfl⟩
      rw [← hj] at cx cy hlt ⊢
      obtain ⟨J, HJ1⟩ : ∃ J, Hid (J = j + 1) := ⟨_, rfl⟩
      rw [← HJ1.out] at cy hlt ⊢
      have hJ := HJ1.out
      have q1 : (0 : Int) ≤ (J : Int) - 1 := by omega
      have q2 : (J : Int) - 1 < (l.length : Int) := by omega
      have q3 : ((J : Int) - 1).toNat = j := by omega
      have q4 : IntKind.i64.wrap ((J : Int) - 1) = (J : Int) - 1 := by rw [IntKind.wrap_i64]; omega
      have q5 : (J : Int) < (l.length : Int) := by omega
      have q6 : (0 : Int) ≤ (J : Int) := by omega
      have hj0 : (0 : Int) ≤ (j : Int) := by omega
      have hj1 : (j : Int) < (l.length : Int) := by omega
      have hw1 : IntKind.i64.wrap ((xw : Int) + (yw : Int)) = (xw : Int) + (yw : Int) := by rw [IntKind.wrap_i64]; omega
      have HO : Hid (wr.ownsRow w.heap.size 3 1 _ k (ic (zN ((prs l).take k)))) := hO
      have HB : Hid (Below w.heap.size w wr) := hB
      have HJ : Hid (j = 2 * k) := hj
      have hkb : k ≤ 1000000 := by omega
      have hgw : g < wr.heap.size := by omega
      have HCA : Hid (∀ o, (wr.alloc o).cell? ⟨g, j * 2, none⟩ = some (.int .i64 (xw : Int)) ∧ (wr.alloc o).cell? ⟨g, J * 2, none⟩ = some (.int .i64 (yw : Int))) := fun o => ⟨by rw [World.cell?_alloc_lt _ _ _ hgw]; exact cx, by rw [World.cell?_alloc_lt _ _ _ hgw]; exact cy⟩
      clear hO hB hx hy e' hj HF hJ
      go_wp2
      go_region_held_law (fun w' => w'.cell? ⟨g, j * 2, none⟩ = some (.int .i64 (xw : Int)) ∧ w'.cell? ⟨g, J * 2, none⟩ = some (.int .i64 (yw : Int))) (first | exact ⟨cx, cy⟩ | assumption | exact HCA.out _ | exact ⟨hgrow2.cell (HCA.out _).1 (fun e => by have := (HO.out.lt g e.symm).1; omega), hgrow2.cell (HCA.out _).2 (fun e => by have := (HO.out.lt g e.symm).1; omega)⟩) ((refine step_append_lies _ (by rfl) _ _ 22 (by rfl) w.heap.size 3 i0 (.int .i64 0) 1 8 Try.underlying22 hi hz0 hz1 hz2 rfl (by decide) u3 k _ (by rfl) (HO.out.drew.alloc _) ⟨wr.heap.size, 0, none⟩ 1 1 [.int .i64 ((xw : Int) + (yw : Int))] (by rfl) rfl (cell_one_new _ _ _) (by intro u hu; simp at hu; subst hu; rfl) (by decide) (by unfold maxLen; omega) (by omega) (by simp; omega) (wr.heap.size + 1) (by simp) ?_; intro gn cn w2 hown2 hgrow2 hat2 hlt2))
      all_goals
        have HO2 : Hid (w2.ownsRow w.heap.size 3 1 (.slice (some ⟨gn, 0, none⟩) (k + 1) cn) (k + 1) (ic (zN ((prs l).take (k + 1))))) := by unfold Hid; rw [HTK.out]; exact hown2
        have HB2 : Hid (Below w.heap.size w w2) := (HB.out.alloc hsz _).drew.grown hgrow2 (by show w.heap.size ≤ (wr.alloc _).heap.size; rw [World.size_alloc]; omega) (fun q hq => (HO.out.lt q hq).1)
        clear hown2 hgrow2 hat2 hlt2 HO HB HCA cx cy
        go_wp2
        go_roundw
        case rel => exact ⟨k + 1, by have := HJ.out; have := HJ1.out; omega, by have := HJ.out; have := HJ1.out; simp; omega, HO2.out, HB2.out⟩
        case measure => have := HJ.out; have := HJ1.out; simp [intOf]; omega
    · have hlk : (prs l).length = k := by omega
      have hts : (prs l).take k = prs l := List.take_of_length_le (by omega)
      rw [hts, ← hlk] at hO
      have hni : ¬ ((2 * k + 1 : Nat) : Int) < (l.length : Int) := by omega
      have HO : Hid (wr.ownsRow _ _ _ _ _ _) := hO
      have HB : Hid (Below w.heap.size w wr) := hB
      generalize 2 * k + 1 = z at *
      clear hO hB hts hlk hpl
      go_wp2
      go_ret
      exact ⟨_, rfl, HO.out, HB.out⟩
end Go.Proofs.Ytclmjopppaknjaa
