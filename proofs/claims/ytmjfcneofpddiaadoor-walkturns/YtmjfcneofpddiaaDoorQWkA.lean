/- An item in memory; walk.byPath and what a sort asks of it. -/
import Derived.Test.YtmjfcneofpddiaaDoorQPthN
import Derived.Test.YtmjfcneofpddiaaDoorQKIns
namespace Go.Proofs.YtmjfcneofpddiaaDoor
open Go.RowKit Go.Shelf Go.Lib Go.Sort
set_option linter.unusedVariables false
set_option linter.unusedSimpArgs false

/-- An item. -/
structure It where
  p : List UInt8
  k : Int
  m : Int
  t : Int
  d : List UInt8
deriving Inhabited, DecidableEq
/-- Its five cells. -/
def itC (x : It) : List Value := [.string (mkB x.p), .int .i64 x.k, .int .i64 x.m, .int .i64 x.t, .string (mkB x.d)]
theorem itC_len (x : It) : (itC x).length = 5 := rfl
theorem itC_one (x : It) : ∀ v ∈ itC x, v.oneCell' = true := by
  intro v hv
  simp only [itC, List.mem_cons, List.not_mem_nil, or_false] at hv
  rcases hv with rfl | rfl | rfl | rfl | rfl <;> rfl
set_option maxRecDepth 100000 in
set_option maxHeartbeats 1000000 in
theorem byPath_any (a b : It) (w : World) (ha : a.p.length ≤ 1000000) (hb : b.p.length ≤ 1000000) (hm : MaxV w) :
    Calls Tryd.prog 42 #[.agg (itC a).toArray, .agg (itC b).toArray] w fun e w' => e = .returned (.int .i64 (pcm a.p b.p)) ∧ ∃ q os, w' = grow (w.drewN q) os := by
  have HM : Hid (MaxV w) := hm
  clear hm
  unfold itC
  go_enter Tryd.func42, Tryd.ntmps42
  go_wp2_with fail
  refine (pcmp_any a.p b.p _ ha hb ?_).mono ?_
  · obtain ⟨m, h⟩ := HM.out
    have hlt := World.block_lt_of_cell? _ _ h
    exact ⟨m, by rw [alloc_eq_grow, alloc_eq_grow, grow_grow, cell?_grow _ _ _ hlt]; exact h⟩
  rintro e w1 ⟨rfl, n, rfl⟩
  go_wp2
  go_ret
  exact ⟨rfl, n, _, by rw [alloc_eq_grow, alloc_eq_grow, grow_grow]; rfl⟩
/-- The order of two items of a list, by their places in it. -/
def cfP (l : List It) (x y : Fin l.length) : Int := pcm (l.get x).p (l.get y).p
def encP (l : List It) (x : Fin l.length) : List Value := itC (l.get x)
theorem swoP (l : List It) : SWO (ltOf (cfP l)) where
  irrefl x := by
    unfold ltOf cfP
    rw [(pcm_ord.eq _ _).2 rfl]; rfl
  trans x y z h1 h2 := by
    unfold ltOf cfP at *
    generalize (l.get x).p = a at *
    generalize (l.get y).p = b at *
    generalize (l.get z).p = c at *
    have e1 : pcm a b = -1 := by have := of_decide_eq_true h1; rcases pcm_ord.vals a b with h | h | h <;> omega
    have e2 : pcm b c = -1 := by have := of_decide_eq_true h2; rcases pcm_ord.vals b c with h | h | h <;> omega
    rw [pcm_ord.tr a b c e1 e2]; rfl
  ntrans x y z h1 h2 := by
    unfold ltOf cfP at *
    generalize (l.get x).p = a at *
    generalize (l.get y).p = b at *
    generalize (l.get z).p = c at *
    have n1 := of_decide_eq_false h1
    have n2 := of_decide_eq_false h2
    apply decide_eq_false
    have g1 : pcm b a = -1 ∨ b = a := by
      have := pcm_ord.anti a b
      rcases pcm_ord.vals a b with h | h | h
      · omega
      · right; exact ((pcm_ord.eq a b).1 h).symm
      · left; omega
    have g2 : pcm c b = -1 ∨ c = b := by
      have := pcm_ord.anti b c
      rcases pcm_ord.vals b c with h | h | h
      · omega
      · right; exact ((pcm_ord.eq b c).1 h).symm
      · left; omega
    have g3 : pcm c a = -1 ∨ c = a := by
      rcases g2 with h2 | rfl
      · rcases g1 with h1 | rfl
        · left; exact pcm_ord.tr c b a h2 h1
        · left; exact h2
      · exact g1
    have := pcm_ord.anti c a
    rcases g3 with h | rfl
    · omega
    · rw [(pcm_ord.eq c c).2 rfl]; omega
theorem cmpLaysP (l : List It) [Inhabited (Fin l.length)] (blk off size : Nat) (w : World) (hl : ∀ x ∈ l, x.p.length ≤ 1000000) (hm : MaxV w) (hb : blk ≠ 2) :
    CmpLays Tryd.prog 42 #[] (encP l) 5 (cfP l) blk off size w := by
  intro m os dk hs x y
  have hM : MaxV (sortWorldK (encP l) 5 w blk off m dk os) := by
    obtain ⟨v, h⟩ := hm
    refine ⟨v, ?_⟩
    unfold sortWorldK
    rw [cell?_grow _ _ _ (by rw [size_putRowK]; exact World.block_lt_of_cell? _ _ h), cell?_putRowK_other _ _ _ _ _ _ _ (fun e => hb e.symm)]
    exact h
  exact byPath_any (l.get x) (l.get y) _ (hl _ (List.get_mem _ _)) (hl _ (List.get_mem _ _)) hM
end Go.Proofs.YtmjfcneofpddiaaDoor
