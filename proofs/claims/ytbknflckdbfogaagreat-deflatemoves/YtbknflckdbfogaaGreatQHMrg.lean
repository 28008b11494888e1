/- Contract of huff.pairs. Contract of huff.merge. -/
import Derived.Test.YtbknflckdbfogaaGreatQHuffC
import Derived.Deep.RegionHeldLaw
import Derived.Deep.AppendLies
import Derived.Deep.QuietTactic
import Derived.BigQuiet
namespace Go.Proofs.YtbknflckdbfogaaGreat
open Go.RowKit
set_option linter.unusedVariables false

/-- Items as cells. -/
def itC (l : List Itm) : List Value := l.flatMap fun x => [.int .i64 (x.wt : Int), .bool x.one]
theorem itC_snoc (l : List Itm) (x : Itm) : itC (l ++ [x]) = itC l ++ [.int .i64 (x.wt : Int), .bool x.one] := by simp [itC]
theorem itC_len (l : List Itm) : (itC l).length = l.length * 2 := by
  induction l with
  | nil => rfl
  | cons a l ih => rw [itC, List.flatMap_cons, List.length_append, ← itC, ih]; simp; omega
theorem itC_at : ∀ (l : List Itm) (i : Nat) (s : Itm), l[i]? = some s → (itC l)[i * 2]? = some (.int .i64 (s.wt : Int)) ∧ (itC l)[i * 2 + 1]? = some (.bool s.one)
  | [], i, s, h => by simp at h
  | a :: l, 0, s, h => by
    simp at h; subst h
    exact ⟨rfl, rfl⟩
  | a :: l, i + 1, s, h => by
    have ih := itC_at l i s (by simpa using h)
    have e : itC (a :: l) = .int .i64 (a.wt : Int) :: .bool a.one :: itC l := rfl
    rw [e, show (i + 1) * 2 = i * 2 + 1 + 1 by omega, show i * 2 + 1 + 1 + 1 = (i * 2 + 1) + 1 + 1 by omega]
    exact ih
/-- A row of items in memory. -/
def PR (w : World) (v : Value) (l : List Itm) : Prop := ∃ a cap, v = .slice a l.length cap ∧ l.length ≤ cap ∧ ∀ i s, l[i]? = some s → ∃ g, a = some ⟨g, 0, none⟩ ∧ g < w.heap.size ∧ w.cell? ⟨g, i * 2, none⟩ = some (.int .i64 (s.wt : Int)) ∧ w.cell? ⟨g, i * 2 + 1, none⟩ = some (.bool s.one)
theorem PR.own {w : World} {B : Nat} {ty : TypeId} {v : Value} {l : List Itm} (h : w.ownsRow B ty 2 v l.length (itC l)) : PR w v l := by
  have hlt := h.lt
  have h' := h
  rcases h.2 with ⟨rfl, h0⟩ | ⟨g, cap, cur, rfl, _, _, hc, _⟩
  · have : l = [] := List.length_eq_zero_iff.1 h0
    subst this
    exact ⟨none, 0, rfl, Nat.le_refl _, fun i s hi => by simp at hi⟩
  · refine ⟨_, cap, rfl, hc, fun i s hi => ⟨g, rfl, (hlt g rfl).2, ?_⟩⟩
    have hl : i < l.length := (List.getElem?_eq_some_iff.1 hi).1
    have hs := itC_at l i s hi
    have hlen := itC_len l
    exact ⟨by rw [h'.cellAt (i * 2) (by omega), hs.1], by rw [h'.cellAt (i * 2 + 1) (by omega), hs.2]⟩
theorem PR.below {w w' : World} {v : Value} {l : List Itm} (h : PR w v l) (hb : Below w.heap.size w w') : PR w' v l := by
  obtain ⟨a, cap, rfl, hc, hf⟩ := h
  refine ⟨a, cap, rfl, hc, fun i s hi => ?_⟩
  obtain ⟨g, rfl, hg, h1, h2⟩ := hf i s hi
  exact ⟨g, rfl, Nat.lt_of_lt_of_le hg hb.size, by rw [hb.cell (p := ⟨g, i * 2, none⟩) hg]; exact h1, by rw [hb.cell (p := ⟨g, i * 2 + 1, none⟩) hg]; exact h2⟩
/-- Numbers as integers. -/
def zN (l : List Nat) : List Int := l.map fun n : Nat => (n : Int)
theorem zN_len (l : List Nat) : (zN l).length = l.length := by simp [zN]
theorem prs_take : ∀ (l : List Itm) (k : Nat) (x y : Itm), l[2 * k]? = some x → l[2 * k + 1]? = some y → (prs l).take (k + 1) = (prs l).take k ++ [x.wt + y.wt]
  | [], k, x, y, h, _ => by simp at h
  | [a], k, x, y, _, h => by simp at h
  | a :: b :: l, 0, x, y, h, h2 => by
    simp at h h2; subst h; subst h2; rw [prs]; simp
  | a :: b :: l, k + 1, x, y, h, h2 => by
    have := prs_take l k x y (by rw [show 2 * (k + 1) = 2 * k + 1 + 1 by omega] at h; simpa using h) (by rw [show 2 * (k + 1) + 1 = 2 * k + 1 + 1 + 1 by omega] at h2; simpa using h2)
    rw [prs, List.take_succ_cons, this, List.take_succ_cons]; rfl
set_option maxRecDepth 100000 in
set_option maxHeartbeats 1000000 in
theorem pairs_any (v : Value) (l : List Itm) (w : World) (hR : PR w v l) (hl : l.length ≤ 1000000) (hw : ∀ x ∈ l, x.wt ≤ 1000000000000000000) :
    Calls Tryz.prog 133 #[v] w fun e w' => ∃ v', e = .returned v' ∧ w'.ownsRow w.heap.size 3 1 v' (prs l).length (ic (zN (prs l))) ∧ Below w.heap.size w w' := by
  obtain ⟨i0, hi, hz0, hz1, hz2⟩ := info_parts Tryz.infoI
  obtain ⟨a, cap, rfl, hcp, hf⟩ := hR
  have HF : Hid (∀ i s, l[i]? = some s → ∃ g, a = some ⟨g, 0, none⟩ ∧ g < w.heap.size ∧ w.cell? ⟨g, i * 2, none⟩ = some (.int .i64 (s.wt : Int)) ∧ w.cell? ⟨g, i * 2 + 1, none⟩ = some (.bool s.one)) := hf
  have HW : Hid (∀ x ∈ l, x.wt ≤ 1000000000000000000) := hw
  have hpl := prs_len l
  clear hf hw
  go_enter Tryz.func133, Tryz.ntmps133
  go_wp2
  go_loopw [3, 4] (fun v i wr => ∃ k : Nat, 2 * k ≤ l.length ∧ i = .int .i64 ((2 * k + 1 : Nat) : Int) ∧ wr.ownsRow w.heap.size 3 1 v k (ic (zN ((prs l).take k))) ∧ Below w.heap.size w wr) (fun _ i _ => l.length + 3 - (intOf i).toNat)
  case atStart => exact ⟨0, by omega, rfl, World.ownsRow_nil _ _ _ _, Below.refl _ _⟩
  case round =>
    obtain ⟨k, hk, rfl, hO, hB⟩ := hrel
    have hsz := hB.size
    by_cases hlt : 2 * k + 1 < l.length
    · obtain ⟨x, hx⟩ : ∃ x, l[2 * k]? = some x := ⟨_, List.getElem?_eq_getElem (by omega)⟩
      obtain ⟨y, hy⟩ : ∃ y, l[2 * k + 1]? = some y := ⟨_, List.getElem?_eq_getElem hlt⟩
      obtain ⟨g, rfl, hg, cx, _⟩ := HF.out _ _ hx
      obtain ⟨g', e', _, cy, _⟩ := HF.out _ _ hy
      obtain rfl : g = g' := by simpa using e'
      rw [← hB.cell (p := ⟨g, 2 * k * 2, none⟩) hg] at cx
      rw [← hB.cell (p := ⟨g, (2 * k + 1) * 2, none⟩) hg] at cy
      have hxw := HW.out x (List.mem_of_getElem? hx)
      have hyw := HW.out y (List.mem_of_getElem? hy)
      have HTK : Hid (ic (zN ((prs l).take (k + 1))) = ic (zN ((prs l).take k)) ++ [.int .i64 ((x.wt : Int) + (y.wt : Int))]) := by
        unfold Hid; rw [prs_take l k x y hx hy]; simp [ic, zN]
      obtain ⟨xw, xo⟩ := x
      obtain ⟨yw, yo⟩ := y
      simp only at cx cy hxw hyw HTK
      obtain ⟨j, hj⟩ : ∃ j, j = 2 * k := ⟨_, rfl⟩
      rw [← hj] at cx cy hlt ⊢
      obtain ⟨J, HJ1⟩ : ∃ J, Hid (J = j + 1) := ⟨_, rfl⟩
      rw [← HJ1.out] at cy hlt ⊢
      have hJ := HJ1.out
      have q1 : (0 : Int) ≤ (J : Int) - 1 := by omega
      have q2 : (J : Int) - 1 < (l.length : Int) := by omega
      have q3 : ((J : Int) - 1).toNat = j := by omega
      have q4 : IntKind.i64.wrap ((J : Int) - 1) = (J : Int) - 1 := by rw [IntKind.wrap_i64]; omega
      have q5 : (J : Int) < (l.length : Int) := by omega
      have q6 : (0 : Int) ≤ (J : Int) := by omega
      have hj0 : (0 : Int) ≤ (j : Int) := by omega
      have hj1 : (j : Int) < (l.length : Int) := by omega
      have hw1 : IntKind.i64.wrap ((xw : Int) + (yw : Int)) = (xw : Int) + (yw : Int) := by rw [IntKind.wrap_i64]; omega
      have HO : Hid (wr.ownsRow w.heap.size 3 1 _ k (ic (zN ((prs l).take k)))) := hO
      have HB : Hid (Below w.heap.size w wr) := hB
      have HJ : Hid (j = 2 * k) := hj
      have hkb : k ≤ 1000000 := by omega
      have hgw : g < wr.heap.size := by omega
      have HCA : Hid (∀ o, (wr.alloc o).cell? ⟨g, j * 2, none⟩ = some (.int .i64 (xw : Int)) ∧ (wr.alloc o).cell? ⟨g, J * 2, none⟩ = some (.int .i64 (yw : Int))) := fun o => ⟨by rw [World.cell?_alloc_lt _ _ _ hgw]; exact cx, by rw [World.cell?_alloc_lt _ _ _ hgw]; exact cy⟩
      clear hO hB hx hy e' hj HF hJ
      go_wp2
      go_region_held_law (fun w' => w'.cell? ⟨g, j * 2, none⟩ = some (.int .i64 (xw : Int)) ∧ w'.cell? ⟨g, J * 2, none⟩ = some (.int .i64 (yw : Int))) (first | exact ⟨cx, cy⟩ | assumption | exact HCA.out _ | exact ⟨hgrow2.cell (HCA.out _).1 (fun e => by have := (HO.out.lt g e.symm).1; omega), hgrow2.cell (HCA.out _).2 (fun e => by have := (HO.out.lt g e.symm).1; omega)⟩) ((refine step_append_lies _ (by rfl) _ _ 40 (by rfl) w.heap.size 3 i0 (.int .i64 0) 1 8 Tryz.underlying40 hi hz0 hz1 hz2 rfl (by decide) u3 k _ (by rfl) (HO.out.drew.alloc _) ⟨wr.heap.size, 0, none⟩ 1 1 [.int .i64 ((xw : Int) + (yw : Int))] (by rfl) rfl (cell_one_new _ _ _) (by intro u hu; simp at hu; subst hu; rfl) (by decide) (by unfold maxLen; omega) (by omega) (by simp; omega) (wr.heap.size + 1) (by simp) ?_; intro gn cn w2 hown2 hgrow2 hat2 hlt2))
      all_goals
        have HO2 : Hid (w2.ownsRow w.heap.size 3 1 (.slice (some ⟨gn, 0, none⟩) (k + 1) cn) (k + 1) (ic (zN ((prs l).take (k + 1))))) := by unfold Hid; rw [HTK.out]; exact hown2
        have HB2 : Hid (Below w.heap.size w w2) := (HB.out.alloc hsz _).drew.grown hgrow2 (by show w.heap.size ≤ (wr.alloc _).heap.size; rw [World.size_alloc]; omega) (fun q hq => (HO.out.lt q hq).1)
        clear hown2 hgrow2 hat2 hlt2 HO HB HCA cx cy
        go_wp2
        go_roundw
        case rel => exact ⟨k + 1, by have := HJ.out; have := HJ1.out; omega, by have := HJ.out; have := HJ1.out; simp; omega, HO2.out, HB2.out⟩
        case measure => have := HJ.out; have := HJ1.out; simp [intOf]; omega
    · have hlk : (prs l).length = k := by omega
      have hts : (prs l).take k = prs l := List.take_of_length_le (by omega)
      rw [hts, ← hlk] at hO
      have hni : ¬ ((2 * k + 1 : Nat) : Int) < (l.length : Int) := by omega
      have HO : Hid (wr.ownsRow _ _ _ _ _ _) := hO
      have HB : Hid (Below w.heap.size w wr) := hB
      generalize 2 * k + 1 = z at *
      clear hO hB hts hlk hpl
      go_wp2
      go_ret
      exact ⟨_, rfl, HO.out, HB.out⟩
end Go.Proofs.YtbknflckdbfogaaGreat
namespace Go.Proofs.YtbknflckdbfogaaGreat
open Go.RowKit
set_option linter.unusedVariables false
set_option linter.unusedSimpArgs false

/-- A slice of numbers that is read; it may be empty, at whatever place. -/
def NR (w : World) (v : Value) (zs : List Nat) : Prop := ∃ a cap, v = .slice a zs.length cap ∧ zs.length ≤ cap ∧ (zs ≠ [] → ∃ g o, a = some ⟨g, o, none⟩ ∧ g < w.heap.size ∧ ∀ i, i < zs.length → w.cell? ⟨g, o + i, none⟩ = some (.int .i64 (zs.getD i 0 : Int)))
theorem Tryz.undK : Tryz.prog.underlying 40 = some (.slice (Tryz.prog.elem 40)) := by kernel_rfl
theorem Tryz.szK (W : World) : (sizeOf (Tryz.prog.elem 40)).run Tryz.prog W = .ok 1 W := by kernel_rfl
/-- Without the first. -/
theorem NR.tail {w : World} {g o n cap x : Nat} {zs : List Nat} (hn : n = zs.length + 1) (hc : n ≤ cap) (hg : g < w.heap.size) (hcell : ∀ i, i < n → w.cell? ⟨g, o + i, none⟩ = some (.int .i64 ((x :: zs).getD i 0 : Int))) :
    ∃ a c, (∀ W, (Instr.slice 40 (.slice (some ⟨g, o, none⟩) n cap) (some (.int .i64 1)) none none).run Tryz.prog W = .ok (.slice a zs.length c) W) ∧ NR w (.slice a zs.length c) zs := by
  refine ⟨if cap = 1 then some ⟨g, o, none⟩ else some ⟨g, o + 1, none⟩, cap - 1, fun W => ?_, ?_⟩
  · rw [run_slice_l (ht := Tryz.undK) (h0 := by omega) (h1 := by omega), Tryz.szK]
    simp only [Result.andThen, sliced]
    by_cases e : cap = 1
    · simp [e, hn]
    · simp [e, hn, Addr.add]
  · refine ⟨_, _, rfl, by omega, fun hz => ?_⟩
    have hl : 0 < zs.length := List.length_pos_iff.2 hz
    rw [if_neg (by omega)]
    exact ⟨g, o + 1, rfl, hg, fun i hi => by
      have := hcell (i + 1) (by omega)
      rw [show o + 1 + i = o + (i + 1) by omega, this]
      simp⟩
theorem Tryz.infoIt : (Tryz.prog.info? 223).map (fun i => (i.zero, i.size, i.bytes)) = some (some (.agg #[.int .i64 0, .bool false]), 2, 16) := by kernel_rfl
theorem item_new (w : World) (x y : Value) (ty : TypeId) : ∀ j u, [x, y][j]? = some u → (w.alloc (.cells #[x, y] ty)).cell? ((⟨w.heap.size, 0, none⟩ : Addr).add j) = some u := World.news_of_block (heap_alloc_new w _)
theorem item_one (x : Int) (b : Bool) : ∀ u ∈ [Value.int .i64 x, .bool b], u.oneCell' = true := by
  intro u hu
  simp only [List.mem_cons, List.not_mem_nil, or_false] at hu
  rcases hu with rfl | rfl <;> rfl
theorem below_drewH {B : Nat} {w wr : World} (h : Below B w wr) (n : Nat) : Below B w (wr.drewN n) := ⟨h.os, h.tape, h.output, h.size, h.block⟩
def lenQ : Value → Nat
  | .slice _ n _ => n
  | _ => 0
set_option maxRecDepth 100000 in
set_option maxHeartbeats 2000000 in
theorem merge_any (v u : Value) (ws ts : List Nat) (w : World) (hV : NR w v ws) (hU : NR w u ts) (hl : ws.length + ts.length ≤ 1000000) :
    Calls Tryz.prog 132 #[v, u] w fun e w' => ∃ v', e = .returned v' ∧ w'.ownsRow w.heap.size 223 2 v' (mrg ws ts).length (itC (mrg ws ts)) ∧ Below w.heap.size w w' := by
  obtain ⟨i0, hi, hz0, hz1, hz2⟩ := info_parts Tryz.infoIt
  have hml := mrg_len ws ts
  go_enter Tryz.func132, Tryz.ntmps132
  go_wp2
  go_loopw [0, 1, 5] (fun x y o wr => ∃ (xs ys : List Nat) (acc : List Itm), NR w x xs ∧ NR w y ys ∧ acc ++ mrg xs ys = mrg ws ts ∧ wr.ownsRow w.heap.size 223 2 o acc.length (itC acc) ∧ Below w.heap.size w wr) (fun x y _ _ => lenQ x + lenQ y)
  case atStart => exact ⟨ws, ts, [], hV, hU, rfl, World.ownsRow_nil _ _ _ _, Below.refl _ _⟩
  case round =>
    clear hV hU
    obtain ⟨xs, ys, acc, hX, hY, hA, hO, hB⟩ := hrel
    have hal : acc.length + (xs.length + ys.length) = (mrg ws ts).length := by rw [← hA, List.length_append, mrg_len]
    have HA : Hid (acc ++ mrg xs ys = mrg ws ts) := hA
    have HO : Hid (wr.ownsRow w.heap.size 223 2 _ acc.length (itC acc)) := hO
    have HB : Hid (Below w.heap.size w wr) := hB
    have hsz := hB.size
    obtain ⟨a, cx, rfl, hcx, hXf⟩ := hX
    obtain ⟨b, cy, rfl, hcy, hYf⟩ := hY
    have HXF : Hid _ := hXf
    have HYF : Hid _ := hYf
    clear hXf hYf hA hO hB
    match xs, ys with
    | [], [] =>
      have HE : Hid (acc = mrg ws ts) := by unfold Hid; rw [← HA.out, mrg]; simp
      rw [HE.out] at HO
      clear HA HXF HYF HE
      simp only [List.length_nil]
      go_wp2
      go_ret
      exact ⟨_, rfl, HO.out, HB.out⟩
    | x0 :: xs, [] =>
      obtain ⟨gx, ox, rfl, hgx, hcellx⟩ := HXF.out (by simp)
      obtain ⟨ax, cx2, hslx, htx⟩ := NR.tail (x := x0) (zs := xs) (n := (x0 :: xs).length) rfl hcx hgx hcellx
      have HTL : Hid (NR w (.slice ax xs.length cx2) xs) := htx
      have HX0 : Hid (NR w (.slice (some ⟨gx, ox, none⟩) (x0 :: xs).length cx) (x0 :: xs)) := ⟨_, cx, rfl, hcx, fun _ => ⟨gx, ox, rfl, hgx, hcellx⟩⟩
      have c0 := hcellx 0 (by simp)
      rw [Nat.add_zero, ← HB.out.cell (p := ⟨gx, ox, none⟩) hgx] at c0
      simp only [List.getD_cons_zero] at c0
      have HY : Hid (NR w (.slice b 0 cy) []) := ⟨b, cy, rfl, Nat.zero_le _, fun h => absurd rfl h⟩
      have HMG : Hid (mrg (x0 :: xs) [] = ⟨x0, true⟩ :: mrg xs []) := by unfold Hid; rw [mrg]
      clear HX0
      obtain ⟨n, hn⟩ : ∃ z, z = (x0 :: xs).length := ⟨_, rfl⟩
      rw [← hn] at hslx hcx hal ⊢
      have hnp : 0 < n := by rw [hn]; simp
      have hnx : xs.length + 1 = n := by rw [hn]; simp
      have hni : (0 : Int) < (n : Int) := by omega
      have hnz : ((n : Int) == 0) = false := by simp; omega
      simp only [List.length_nil] at hal ⊢
      clear htx hcellx HXF HYF hn
      go_wp2
      go_quiet (fail)
      have HN2 : Hid _ := item_new (wr.drewN nq) (.int .i64 (x0 : Int)) (.bool true) 223
      have HOX : Hid ((wr.drewN nq).ownsRow w.heap.size 223 2 _ acc.length (itC acc)) := HO.out
      have hszX : w.heap.size ≤ (wr.drewN nq).heap.size := hsz
      have HBX : Hid (Below w.heap.size w (wr.drewN nq)) := below_drewH HB.out nq
      clear HO HB
      have c9 : (wr.drewN nq).cell? _ = _ := c0
      generalize (wr.drewN nq) = W2 at *
      go_wp2_with (at_builtin; refine wpList_append_own _ rfl _ _ 221 rfl w.heap.size 223 i0 (.agg #[.int .i64 0, .bool false]) 2 16 Tryz.underlying221 hi hz0 hz1 hz2 rfl (by decide) _ _ _ rfl (HOX.out.alloc _) ⟨W2.heap.size, 0, none⟩ 1 1 [.int .i64 (x0 : Int), .bool true] rfl rfl HN2.out (item_one _ _) ?c3 ?c4 ?c5 ?_)
      case c3 => unfold maxLen; omega
      case c4 => omega
      case c5 => first | omega | (rw [World.size_alloc]; omega)
      intro v8 w8 hown hg8 _
      have HO8 : Hid (w8.ownsRow w.heap.size 223 2 v8 (acc ++ [(⟨x0, true⟩ : Itm)]).length (itC (acc ++ [(⟨x0, true⟩ : Itm)]))) := by unfold Hid; rw [itC_snoc, List.length_append]; exact hown
      have HB8 : Hid (Below w.heap.size w w8) := (HBX.out.alloc hszX _).grown hg8 (by rw [World.size_alloc]; omega) (fun q hq => (HOX.out.lt q hq).1)
      clear hown hg8 HOX HBX HN2
      go_wp2
      go_roundw
      case rel => exact ⟨xs, [], acc ++ [(⟨x0, true⟩ : Itm)], HTL.out, HY.out, by rw [List.append_assoc, ← HA.out, HMG.out]; rfl, HO8.out, HB8.out⟩
      case measure => simp [lenQ]; try omega
    | [], y0 :: ys =>
      obtain ⟨gy, oy, rfl, hgy, hcelly⟩ := HYF.out (by simp)
      obtain ⟨ay, cy2, hsly, hty⟩ := NR.tail (x := y0) (zs := ys) (n := (y0 :: ys).length) rfl hcy hgy hcelly
      have HTL : Hid (NR w (.slice ay ys.length cy2) ys) := hty
      have HY0 : Hid (NR w (.slice (some ⟨gy, oy, none⟩) (y0 :: ys).length cy) (y0 :: ys)) := ⟨_, cy, rfl, hcy, fun _ => ⟨gy, oy, rfl, hgy, hcelly⟩⟩
      have d0 := hcelly 0 (by simp)
      rw [Nat.add_zero, ← HB.out.cell (p := ⟨gy, oy, none⟩) hgy] at d0
      simp only [List.getD_cons_zero] at d0
      have HX : Hid (NR w (.slice a 0 cx) []) := ⟨a, cx, rfl, Nat.zero_le _, fun h => absurd rfl h⟩
      have HMG : Hid (mrg [] (y0 :: ys) = ⟨y0, false⟩ :: mrg [] ys) := by unfold Hid; rw [mrg]
      clear HY0
      obtain ⟨m, hm⟩ : ∃ z, z = (y0 :: ys).length := ⟨_, rfl⟩
      rw [← hm] at hsly hcy hal ⊢
      have hmp : 0 < m := by rw [hm]; simp
      have hmx : ys.length + 1 = m := by rw [hm]; simp
      have hmi : (0 : Int) < (m : Int) := by omega
      have hmz : ((m : Int) == 0) = false := by simp; omega
      simp only [List.length_nil] at hal ⊢
      clear hty hcelly HXF HYF hm
      go_wp2
      go_quiet (fail)
      have HN2 : Hid _ := item_new (wr.drewN nq) (.int .i64 (y0 : Int)) (.bool false) 223
      have HOX : Hid ((wr.drewN nq).ownsRow w.heap.size 223 2 _ acc.length (itC acc)) := HO.out
      have hszX : w.heap.size ≤ (wr.drewN nq).heap.size := hsz
      have HBX : Hid (Below w.heap.size w (wr.drewN nq)) := below_drewH HB.out nq
      clear HO HB
      have c9 : (wr.drewN nq).cell? _ = _ := d0
      generalize (wr.drewN nq) = W2 at *
      go_wp2_with (at_builtin; refine wpList_append_own _ rfl _ _ 221 rfl w.heap.size 223 i0 (.agg #[.int .i64 0, .bool false]) 2 16 Tryz.underlying221 hi hz0 hz1 hz2 rfl (by decide) _ _ _ rfl (HOX.out.alloc _) ⟨W2.heap.size, 0, none⟩ 1 1 [.int .i64 (y0 : Int), .bool false] rfl rfl HN2.out (item_one _ _) ?c3 ?c4 ?c5 ?_)
      case c3 => unfold maxLen; omega
      case c4 => omega
      case c5 => first | omega | (rw [World.size_alloc]; omega)
      intro v8 w8 hown hg8 _
      have HO8 : Hid (w8.ownsRow w.heap.size 223 2 v8 (acc ++ [(⟨y0, false⟩ : Itm)]).length (itC (acc ++ [(⟨y0, false⟩ : Itm)]))) := by unfold Hid; rw [itC_snoc, List.length_append]; exact hown
      have HB8 : Hid (Below w.heap.size w w8) := (HBX.out.alloc hszX _).grown hg8 (by rw [World.size_alloc]; omega) (fun q hq => (HOX.out.lt q hq).1)
      clear hown hg8 HOX HBX HN2
      go_wp2
      go_roundw
      case rel => exact ⟨[], ys, acc ++ [(⟨y0, false⟩ : Itm)], HX.out, HTL.out, by rw [List.append_assoc, ← HA.out, HMG.out]; rfl, HO8.out, HB8.out⟩
      case measure => simp [lenQ]; try omega
    | x0 :: xs, y0 :: ys =>
      obtain ⟨gx, ox, rfl, hgx, hcellx⟩ := HXF.out (by simp)
      obtain ⟨ax, cx2, hslx, htx⟩ := NR.tail (x := x0) (zs := xs) (n := (x0 :: xs).length) rfl hcx hgx hcellx
      have HTX : Hid (NR w (.slice ax xs.length cx2) xs) := htx
      have HX : Hid (NR w (.slice (some ⟨gx, ox, none⟩) (x0 :: xs).length cx) (x0 :: xs)) := ⟨_, cx, rfl, hcx, fun _ => ⟨gx, ox, rfl, hgx, hcellx⟩⟩
      have c0 := hcellx 0 (by simp)
      rw [Nat.add_zero, ← HB.out.cell (p := ⟨gx, ox, none⟩) hgx] at c0
      simp only [List.getD_cons_zero] at c0
      obtain ⟨gy, oy, rfl, hgy, hcelly⟩ := HYF.out (by simp)
      obtain ⟨ay, cy2, hsly, hty⟩ := NR.tail (x := y0) (zs := ys) (n := (y0 :: ys).length) rfl hcy hgy hcelly
      have HTY : Hid (NR w (.slice ay ys.length cy2) ys) := hty
      have HY : Hid (NR w (.slice (some ⟨gy, oy, none⟩) (y0 :: ys).length cy) (y0 :: ys)) := ⟨_, cy, rfl, hcy, fun _ => ⟨gy, oy, rfl, hgy, hcelly⟩⟩
      have d0 := hcelly 0 (by simp)
      rw [Nat.add_zero, ← HB.out.cell (p := ⟨gy, oy, none⟩) hgy] at d0
      simp only [List.getD_cons_zero] at d0
      obtain ⟨n, hn⟩ : ∃ z, z = (x0 :: xs).length := ⟨_, rfl⟩
      obtain ⟨m, hm⟩ : ∃ z, z = (y0 :: ys).length := ⟨_, rfl⟩
      rw [← hn] at hslx hcx hal HX ⊢
      rw [← hm] at hsly hcy hal HY ⊢
      have hnp : 0 < n := by rw [hn]; simp
      have hmp : 0 < m := by rw [hm]; simp
      have hnx : xs.length + 1 = n := by rw [hn]; simp
      have hmx : ys.length + 1 = m := by rw [hm]; simp
      have hni : (0 : Int) < (n : Int) := by omega
      have hmi : (0 : Int) < (m : Int) := by omega
      have hmz : ((m : Int) == 0) = false := by simp; omega
      have hnm : (0 : Int) < (n : Int) + (m : Int) := by omega
      have HMR : Hid (mrg (x0 :: xs) (y0 :: ys) = if x0 ≤ y0 then ⟨x0, true⟩ :: mrg xs (y0 :: ys) else ⟨y0, false⟩ :: mrg (x0 :: xs) ys) := by unfold Hid; rw [mrg]
      clear htx hty hcellx hcelly HXF HYF hn hm
      by_cases hle : x0 ≤ y0
      · have hli : decide ((x0 : Int) ≤ (y0 : Int)) = true := by simp; omega
        have HMG : Hid (mrg (x0 :: xs) (y0 :: ys) = ⟨x0, true⟩ :: mrg xs (y0 :: ys)) := by unfold Hid; rw [HMR.out, if_pos hle]
        have HTL := HTX
        clear HMR HTX HTY HX
        go_wp2
        go_quiet (fail)
        have HN2 : Hid _ := item_new (wr.drewN nq) (.int .i64 (x0 : Int)) (.bool true) 223
        have HOX : Hid ((wr.drewN nq).ownsRow w.heap.size 223 2 _ acc.length (itC acc)) := HO.out
        have hszX : w.heap.size ≤ (wr.drewN nq).heap.size := hsz
        have HBX : Hid (Below w.heap.size w (wr.drewN nq)) := below_drewH HB.out nq
        clear HO HB
        have c9 : (wr.drewN nq).cell? _ = _ := c0
        generalize (wr.drewN nq) = W2 at *
        go_wp2_with (at_builtin; refine wpList_append_own _ rfl _ _ 221 rfl w.heap.size 223 i0 (.agg #[.int .i64 0, .bool false]) 2 16 Tryz.underlying221 hi hz0 hz1 hz2 rfl (by decide) _ _ _ rfl (HOX.out.alloc _) ⟨W2.heap.size, 0, none⟩ 1 1 [.int .i64 (x0 : Int), .bool true] rfl rfl HN2.out (item_one _ _) ?c3 ?c4 ?c5 ?_)
        case c3 => unfold maxLen; omega
        case c4 => omega
        case c5 => first | omega | (rw [World.size_alloc]; omega)
        intro v8 w8 hown hg8 _
        have HO8 : Hid (w8.ownsRow w.heap.size 223 2 v8 (acc ++ [(⟨x0, true⟩ : Itm)]).length (itC (acc ++ [(⟨x0, true⟩ : Itm)]))) := by unfold Hid; rw [itC_snoc, List.length_append]; exact hown
        have HB8 : Hid (Below w.heap.size w w8) := (HBX.out.alloc hszX _).grown hg8 (by rw [World.size_alloc]; omega) (fun q hq => (HOX.out.lt q hq).1)
        clear hown hg8 HOX HBX HN2
        go_wp2
        go_roundw
        case rel => exact ⟨xs, (y0 :: ys), acc ++ [(⟨x0, true⟩ : Itm)], HTL.out, HY.out, by rw [List.append_assoc, ← HA.out, HMG.out]; rfl, HO8.out, HB8.out⟩
        case measure => simp [lenQ]; try omega
      · have hli : decide ((x0 : Int) ≤ (y0 : Int)) = false := by simp; omega
        have HMG : Hid (mrg (x0 :: xs) (y0 :: ys) = ⟨y0, false⟩ :: mrg (x0 :: xs) ys) := by unfold Hid; rw [HMR.out, if_neg hle]
        have HTL := HTY
        clear HMR HTX HTY HY
        go_wp2
        go_quiet (fail)
        have HN2 : Hid _ := item_new (wr.drewN nq) (.int .i64 (y0 : Int)) (.bool false) 223
        have HOX : Hid ((wr.drewN nq).ownsRow w.heap.size 223 2 _ acc.length (itC acc)) := HO.out
        have hszX : w.heap.size ≤ (wr.drewN nq).heap.size := hsz
        have HBX : Hid (Below w.heap.size w (wr.drewN nq)) := below_drewH HB.out nq
        clear HO HB
        have c9 : (wr.drewN nq).cell? _ = _ := d0
        generalize (wr.drewN nq) = W2 at *
        go_wp2_with (at_builtin; refine wpList_append_own _ rfl _ _ 221 rfl w.heap.size 223 i0 (.agg #[.int .i64 0, .bool false]) 2 16 Tryz.underlying221 hi hz0 hz1 hz2 rfl (by decide) _ _ _ rfl (HOX.out.alloc _) ⟨W2.heap.size, 0, none⟩ 1 1 [.int .i64 (y0 : Int), .bool false] rfl rfl HN2.out (item_one _ _) ?c3 ?c4 ?c5 ?_)
        case c3 => unfold maxLen; omega
        case c4 => omega
        case c5 => first | omega | (rw [World.size_alloc]; omega)
        intro v8 w8 hown hg8 _
        have HO8 : Hid (w8.ownsRow w.heap.size 223 2 v8 (acc ++ [(⟨y0, false⟩ : Itm)]).length (itC (acc ++ [(⟨y0, false⟩ : Itm)]))) := by unfold Hid; rw [itC_snoc, List.length_append]; exact hown
        have HB8 : Hid (Below w.heap.size w w8) := (HBX.out.alloc hszX _).grown hg8 (by rw [World.size_alloc]; omega) (fun q hq => (HOX.out.lt q hq).1)
        clear hown hg8 HOX HBX HN2
        go_wp2
        go_roundw
        case rel => exact ⟨(x0 :: xs), ys, acc ++ [(⟨y0, false⟩ : Itm)], HX.out, HTL.out, by rw [List.append_assoc, ← HA.out, HMG.out]; rfl, HO8.out, HB8.out⟩
        case measure => simp [lenQ]; try omega
end Go.Proofs.YtbknflckdbfogaaGreat
