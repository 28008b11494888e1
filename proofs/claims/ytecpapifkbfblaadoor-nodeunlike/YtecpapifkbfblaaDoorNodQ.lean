/- Trees whose nodes change places; records and lists that stay. -/
import Derived.Test.YtecpapifkbfblaaDoorNodA
import Derived.Test.YtecpapifkbfblaaDoorGrow
namespace Go.Proofs.YtecpapifkbfblaaDoor
open Go.RowKit
set_option linter.unusedVariables false
set_option linter.unusedSimpArgs false

theorem chkN_cons {a : List UInt8} {fs : List (List UInt8)} {n : Nd} {r : List Nd} (h : chkN a fs (n :: r) = 0) :
    unfitN n = 0 ∧ pcm a (atN n) < 0 ∧ parL (atN n) ∈ fs ∧ chkN (atN n) (if kindN n = 1 then atN n :: fs else fs) r = 0 := by
  rw [chkN] at h
  by_cases h1 : unfitN n = 0
  · rw [if_neg (by simpa using h1)] at h
    by_cases h2 : 0 ≤ pcm a (atN n)
    · rw [if_pos h2] at h; exact absurd h (by decide)
    · rw [if_neg h2] at h
      by_cases h3 : parL (atN n) ∈ fs
      · rw [if_neg (by simpa using h3)] at h
        exact ⟨h1, by omega, h3, h⟩
      · rw [if_pos h3] at h; exact absurd h (by decide)
  · rw [if_pos h1] at h; exact absurd h h1
theorem chkN_mk {a : List UInt8} {fs : List (List UInt8)} {n : Nd} {r : List Nd} (h1 : unfitN n = 0) (h2 : pcm a (atN n) < 0) (h3 : parL (atN n) ∈ fs) (h4 : chkN (atN n) (if kindN n = 1 then atN n :: fs else fs) r = 0) : chkN a fs (n :: r) = 0 := by
  rw [chkN, if_neg (by simpa using h1), if_neg (by omega), if_neg (by simpa using h3)]; exact h4
theorem chk_take : ∀ (l : List Nd) (k : Nat) (a : List UInt8) (fs : List (List UInt8)), chkN a fs l = 0 → chkN a fs (l.take k) = 0
  | [], k, a, fs, _ => by rw [List.take_nil, chkN]
  | n :: r, 0, a, fs, _ => by rw [List.take_zero, chkN]
  | n :: r, k + 1, a, fs, h => by
    obtain ⟨h1, h2, h3, h4⟩ := chkN_cons h
    rw [List.take_succ_cons]
    exact chkN_mk h1 h2 h3 (chk_take r k _ _ h4)
theorem chk_rise : ∀ (l : List Nd) (a : List UInt8) (fs : List (List UInt8)), chkN a fs l = 0 → ∀ i, i + 1 < l.length → pcm (atN (l.getD i .non)) (atN (l.getD (i + 1) .non)) < 0
  | [], a, fs, _, i, hi => by simp at hi
  | [n], a, fs, _, i, hi => by simp at hi
  | n :: m :: r, a, fs, h, 0, hi => by
    obtain ⟨_, _, _, h4⟩ := chkN_cons h
    exact (chkN_cons h4).2.1
  | n :: m :: r, a, fs, h, i + 1, hi => by
    obtain ⟨_, _, _, h4⟩ := chkN_cons h
    exact chk_rise (m :: r) _ _ h4 i (by simp at hi ⊢; omega)
theorem check_take {l : List Nd} (h : checkN l = 0) (k : Nat) : checkN (l.take k) = 0 := by
  unfold checkN at h ⊢
  by_cases h1 : 200 < l.length
  · rw [if_pos h1] at h; exact absurd h (by decide)
  · rw [if_neg h1] at h
    rw [if_neg (by rw [List.length_take]; omega)]
    exact chk_take l k _ _ h
theorem check_rise {l : List Nd} (h : checkN l = 0) (i : Nat) (hi : i + 1 < l.length) : pcm (atN (l.getD i .non)) (atN (l.getD (i + 1) .non)) < 0 := by
  unfold checkN at h
  by_cases h1 : 200 < l.length
  · rw [if_pos h1] at h; exact absurd h (by decide)
  · rw [if_neg h1] at h
    exact chk_rise l _ _ h i hi
/-- Two neighbours that change places. -/
def swN (l : List Nd) (i : Nat) : List Nd := (l.set i (l.getD (i + 1) .non)).set (i + 1) (l.getD i .non)
theorem swN_len (l : List Nd) (i : Nat) : (swN l i).length = l.length := by unfold swN; simp
theorem swN_at (l : List Nd) (i : Nat) (hi : i + 1 < l.length) (j : Nat) : (swN l i).getD j .non = if j = i + 1 then l.getD i .non else if j = i then l.getD (i + 1) .non else l.getD j .non := by
  unfold swN
  rw [List.getD_eq_getElem?_getD, List.getElem?_set]
  by_cases h1 : j = i + 1
  · rw [if_pos h1, if_pos h1.symm, if_pos (by simpa using hi)]; rfl
  · rw [if_neg h1, if_neg (fun e => h1 e.symm), List.getElem?_set]
    by_cases h2 : j = i
    · rw [if_pos h2, if_pos h2.symm, if_pos (by omega)]; rfl
    · rw [if_neg h2, if_neg (fun e => h2 e.symm), List.getD_eq_getElem?_getD]
theorem swN_bad {l : List Nd} (h : checkN l = 0) (i : Nat) (hi : i + 1 < l.length) : checkN (swN l i) ≠ 0 := by
  intro hs
  have h1 := check_rise h i hi
  have h2 := check_rise hs i (by rw [swN_len]; exact hi)
  rw [swN_at l i hi, swN_at l i hi, if_neg (by omega), if_pos rfl, if_pos rfl] at h2
  have h3 := pcm_ord.anti (atN (l.getD i .non)) (atN (l.getD (i + 1) .non))
  omega
theorem swN_mem {l : List Nd} (i : Nat) (hi : i + 1 < l.length) {n : Nd} (h : n ∈ swN l i) : n ∈ l := by
  obtain ⟨j, hj, rfl⟩ := List.mem_iff_getElem.1 h
  rw [swN_len] at hj
  have e : (swN l i)[j] = (swN l i).getD j .non := by rw [List.getD_eq_getElem?_getD, List.getElem?_eq_getElem (by rw [swN_len]; exact hj)]; rfl
  rw [e, swN_at l i hi]
  split
  · exact nd_mem (by omega)
  · split
    · exact nd_mem (by omega)
    · exact nd_mem hj
theorem IsRecs.below {w w' : World} {a : Option Addr} {len cap : Nat} {l : List Rc} (h : IsRecs w a len cap l) (hb : Below w.heap.size w w') : IsRecs w' a len cap l := by
  obtain ⟨h0, h⟩ := h
  refine ⟨h0, ?_⟩
  rcases h with h | ⟨x, hx, h1, h2, h3⟩
  · exact .inl h
  · refine .inr ⟨x, hx, h1, h2, fun i hi => ?_⟩
    obtain ⟨k1, u, k2, k3⟩ := h3 i hi
    exact ⟨k1, u, k2.below hb, fun j v hv => by rw [hb.cell (World.block_lt_of_cell? _ _ (k3 j v hv))]; exact k3 j v hv⟩
theorem allN_NB {w : World} {a : Option Addr} {len cap : Nat} {rs : List Rc} (h : IsRecs w a len cap rs) : ∀ n ∈ allN rs, NB n := by
  intro n hn
  unfold allN at hn
  obtain ⟨r, hr, rfl⟩ := List.mem_map.1 hn
  refine ndOf_NB (cut20_ok ?_)
  have hr2 := List.mem_of_mem_take hr
  obtain ⟨j, hj, rfl⟩ := List.mem_iff_getElem.1 hr2
  obtain ⟨h0, h⟩ := h
  rcases h with ⟨_, h, _⟩ | ⟨x, hx, h1, h2, h3⟩
  · omega
  · have := (h3 j (by omega)).1
    rw [List.getD_eq_getElem?_getD, List.getElem?_eq_getElem hj] at this
    exact this
theorem LN.cut {w : World} {a : Option Addr} {n cap : Nat} {l : List Nd} (h : LN w (.slice a n cap) l) (k : Nat) (hk : k ≤ l.length) : LN w (.slice a k cap) (l.take k) := by
  obtain ⟨a', cap', he, h1, h2⟩ := h
  injection he with e1 e2 e3
  subst e1 e3
  have hl : (l.take k).length = k := by rw [List.length_take]; omega
  refine ⟨a, cap, by rw [hl], by rw [hl]; omega, fun i hi => ?_⟩
  rw [hl] at hi
  obtain ⟨x, u, hx, hc, hn⟩ := h2 i (by omega)
  refine ⟨x, u, hx, hc, ?_⟩
  rw [List.getD_eq_getElem?_getD, List.getElem?_take, if_pos hi, ← List.getD_eq_getElem?_getD]
  exact hn
/-- Cells of a list of nodes of one's own that change places. -/
theorem ON.swap {w w' : World} {B g cap n i : Nat} {l : List Nd} {x y : Value} (h : ON w B (.slice (some ⟨g, 0, none⟩) n cap) l) (hi : i + 1 < l.length) (hn : n = l.length)
    (hx : w.cell? ⟨g, i, none⟩ = some x) (hy : w.cell? ⟨g, i + 1, none⟩ = some y) (hg : w.grownBy w' (some g))
    (hc : ∀ j, w'.cell? ⟨g, j, none⟩ = if j = i + 1 then some x else if j = i then some y else w.cell? ⟨g, j, none⟩) : LN w' (.slice (some ⟨g, 0, none⟩) n cap) (swN l i) := by
  obtain ⟨vs, h1, h2, h3⟩ := h
  have h2' := h2
  subst hn
  have hcap : l.length ≤ cap := by
    rcases h2.2 with ⟨he, _⟩ | ⟨k, c, cur, he, _, _, hc, _⟩
    · cases he
    · injection he with e1 e2 e3; subst e3; exact hc
  have old : ∀ j, j < l.length → ∃ u, w.cell? ⟨g, j, none⟩ = some u ∧ NV w' u (l.getD j .non) := fun j hj => by
    refine ⟨vs.getD j .nilIface, ?_, ?_⟩
    · rw [World.ownsRow.cellAt h2' j (by omega), List.getD_eq_getElem?_getD, List.getElem?_eq_getElem (by omega)]; rfl
    · exact ((h3 j hj).beside h2' hg).nv
  refine ⟨some ⟨g, 0, none⟩, cap, by rw [swN_len], by rw [swN_len]; exact hcap, fun j hj => ?_⟩
  rw [swN_len] at hj
  rw [swN_at l i hi]
  suffices hh : ∃ u, w'.cell? ⟨g, j, none⟩ = some u ∧ NV w' u (if j = i + 1 then l.getD i .non else if j = i then l.getD (i + 1) .non else l.getD j .non) by
    obtain ⟨u, k1, k2⟩ := hh
    exact ⟨⟨g, 0, none⟩, u, rfl, by rw [Addr.add_lit, Nat.zero_add]; exact k1, k2⟩
  rw [hc j]
  by_cases e1 : j = i + 1
  · rw [if_pos e1, if_pos e1]
    obtain ⟨u, hu, hnv⟩ := old i (by omega)
    rw [hx] at hu
    obtain rfl := Option.some.inj hu
    exact ⟨_, rfl, hnv⟩
  · rw [if_neg e1, if_neg e1]
    by_cases e2 : j = i
    · rw [if_pos e2, if_pos e2]
      obtain ⟨u, hu, hnv⟩ := old (i + 1) (by omega)
      rw [hy] at hu
      obtain rfl := Option.some.inj hu
      exact ⟨_, rfl, hnv⟩
    · rw [if_neg e2, if_neg e2]
      obtain ⟨u, hu, hnv⟩ := old j hj
      exact ⟨_, hu, hnv⟩
end Go.Proofs.YtecpapifkbfblaaDoor
