/- Contract of huff.checkCounts. -/
import Derived.Test.YthkppipdflmekaaGreatQMatchE
import Derived.Deep.RegionHeldLaw
import Derived.Deep.AppendLies
import Derived.Deep.QuietTactic
import Derived.BigQuiet
set_option maxRecDepth 100000
set_option maxHeartbeats 2000000
namespace Go.Proofs.YthkppipdflmekaaGreat
open Go.RowKit
set_option linter.unusedVariables false
def itC (l : List Itm) : List Value := l.flatMap fun x => [.int .i64 (x.wt : Int), .bool x.one]
theorem qhu (l : List Itm) (x : Itm) : itC (l ++ [x]) = itC l ++ [.int .i64 (x.wt : Int), .bool x.one] := by simp [itC]
theorem qwe (l : List Itm) : (itC l).length = l.length * 2 := by
 induction l with
 | nil => rfl
 | cons a l ih => rw [itC, List.flatMap_cons, List.length_append, ← itC, ih]; simp; omega
theorem qrj : ∀ (l : List Itm) (i : Nat) (s : Itm), l[i]? = some s → (itC l)[i * 2]? = some (.int .i64 (s.wt : Int)) ∧ (itC l)[i * 2 + 1]? = some (.bool s.one)
 | [], i, s, h => by simp at h
 | a :: l, 0, s, h => by
  simp at h; subst h
  exact ⟨rfl, rfl⟩
 | a :: l, i + 1, s, h => by
  have ih := qrj l i s (by simpa using h)
  have e : itC (a :: l) = .int .i64 (a.wt : Int) :: .bool a.one :: itC l := rfl
  rw [e, show (i + 1) * 2 = i * 2 + 1 + 1 by omega, show i * 2 + 1 + 1 + 1 = (i * 2 + 1) + 1 + 1 by omega]
  exact ih
def PR (w : World) (v : Value) (l : List Itm) : Prop := ∃ a cap, v = .slice a l.length cap ∧ l.length ≤ cap ∧ ∀ i s, l[i]? = some s → ∃ g, a = some ⟨g, 0, none⟩ ∧ g < w.heap.size ∧ w.cell? ⟨g, i * 2, none⟩ = some (.int .i64 (s.wt : Int)) ∧ w.cell? ⟨g, i * 2 + 1, none⟩ = some (.bool s.one)
theorem PR.own {w : World} {B : Nat} {ty : TypeId} {v : Value} {l : List Itm} (h : w.ownsRow B ty 2 v l.length (itC l)) : PR w v l := by
 have hlt := h.lt
 have h' := h
 rcases h.2 with ⟨rfl, h0⟩ | ⟨g, cap, cur, rfl, _, _, hc, _⟩
 · have : l = [] := List.length_eq_zero_iff.1 h0
   subst this
   exact ⟨none, 0, rfl, Nat.le_refl _, fun i s hi => by simp at hi⟩
 · refine ⟨_, cap, rfl, hc, fun i s hi => ⟨g, rfl, (hlt g rfl).2, ?_⟩⟩
   have hl : i < l.length := (List.getElem?_eq_some_iff.1 hi).1
   have hs := qrj l i s hi
   have hlen := qwe l
   exact ⟨by rw [h'.cellAt (i * 2) (by omega), hs.1], by rw [h'.cellAt (i * 2 + 1) (by omega), hs.2]⟩
def zN (l : List Nat) : List Int := l.map fun n : Nat => (n : Int)
theorem q35 (l : List Nat) : (zN l).length = l.length := by simp [zN]
theorem qq2 : ∀ (l : List Itm) (k : Nat) (x y : Itm), l[2 * k]? = some x → l[2 * k + 1]? = some y → (prs l).take (k + 1) = (prs l).take k ++ [x.wt + y.wt]
 | [], k, x, y, h, _ => by simp at h
 | [a], k, x, y, _, h => by simp at h
 | a :: b :: l, 0, x, y, h, h2 => by
  simp at h h2; subst h; subst h2; rw [prs]; simp
 | a :: b :: l, k + 1, x, y, h, h2 => by
  have := qq2 l k x y (by rw [show 2 * (k + 1) = 2 * k + 1 + 1 by omega] at h; simpa using h) (by rw [show 2 * (k + 1) + 1 = 2 * k + 1 + 1 + 1 by omega] at h2; simpa using h2)
  rw [prs, List.take_succ_cons, this, List.take_succ_cons]; rfl
theorem qm7 (v : Value) (l : List Itm) (w : World) (hR : PR w v l) (hl : l.length ≤ 1000000) (hw : ∀ x ∈ l, x.wt ≤ 1000000000000000000) :
    Calls Tryz.prog 131 #[v] w fun e w' => ∃ v', e = .returned v' ∧ w'.ownsRow w.heap.size 3 1 v' (prs l).length (ic (zN (prs l))) ∧ Below w.heap.size w w' := by
 obtain ⟨i0, hi, hz0, hz1, hz2⟩ := info_parts Tryz.infoI
 obtain ⟨a, cap, rfl, hcp, hf⟩ := hR
 have HF : Hid (∀ i s, l[i]? = some s → ∃ g, a = some ⟨g, 0, none⟩ ∧ g < w.heap.size ∧ w.cell? ⟨g, i * 2, none⟩ = some (.int .i64 (s.wt : Int)) ∧ w.cell? ⟨g, i * 2 + 1, none⟩ = some (.bool s.one)) := hf
 have HW : Hid (∀ x ∈ l, x.wt ≤ 1000000000000000000) := hw
 have hpl := qfj l
 clear hf hw
 go_enter Tryz.func131, Tryz.ntmps131
 go_wp2
 go_loopw [3, 4] (fun v i wr => ∃ k : Nat, 2 * k ≤ l.length ∧ i = .int .i64 ((2 * k + 1 : Nat) : Int) ∧ wr.ownsRow w.heap.size 3 1 v k (ic (zN ((prs l).take k))) ∧ Below w.heap.size w wr) (fun _ i _ => l.length + 3 - (intOf i).toNat)
 case atStart => exact ⟨0, by omega, rfl, World.ownsRow_nil _ _ _ _, Below.refl _ _⟩
 case round =>
  obtain ⟨k, hk, rfl, hO, hB⟩ := hrel
  have hsz := hB.size
  by_cases hlt : 2 * k + 1 < l.length
  · obtain ⟨x, hx⟩ : ∃ x, l[2 * k]? = some x := ⟨_, List.getElem?_eq_getElem (by omega)⟩
    obtain ⟨y, hy⟩ : ∃ y, l[2 * k + 1]? = some y := ⟨_, List.getElem?_eq_getElem hlt⟩
    obtain ⟨g, rfl, hg, cx, _⟩ := HF.out _ _ hx
    obtain ⟨g', e', _, cy, _⟩ := HF.out _ _ hy
    obtain rfl : g = g' := by simpa using e'
    rw [← hB.cell (p := ⟨g, 2 * k * 2, none⟩) hg] at cx
    rw [← hB.cell (p := ⟨g, (2 * k + 1) * 2, none⟩) hg] at cy
    have hxw := HW.out x (List.mem_of_getElem? hx)
    have hyw := HW.out y (List.mem_of_getElem? hy)
    have HTK : Hid (ic (zN ((prs l).take (k + 1))) = ic (zN ((prs l).take k)) ++ [.int .i64 ((x.wt : Int) + (y.wt : Int))]) := by
     unfold Hid; rw [qq2 l k x y hx hy]; simp [ic, zN]
    obtain ⟨xw, xo⟩ := x
    obtain ⟨yw, yo⟩ := y
    simp only at cx cy hxw hyw HTK
    obtain ⟨j, hj⟩ : ∃ j, j = 2 * k := ⟨_, rfl⟩
    rw [← hj] at cx cy hlt ⊢
    obtain ⟨J, HJ1⟩ : ∃ J, Hid (J = j + 1) := ⟨_, rfl⟩
    rw [← HJ1.out] at cy hlt ⊢
    have hJ := HJ1.out
    have q1 : (0 : Int) ≤ (J : Int) - 1 := by omega
    have q2 : (J : Int) - 1 < (l.length : Int) := by omega
    have q3 : ((J : Int) - 1).toNat = j := by omega
    have q4 : IntKind.i64.wrap ((J : Int) - 1) = (J : Int) - 1 := by rw [IntKind.wrap_i64]; omega
    have q5 : (J : Int) < (l.length : Int) := by omega
    have q6 : (0 : Int) ≤ (J : Int) := by omega
    have hj0 : (0 : Int) ≤ (j : Int) := by omega
    have hj1 : (j : Int) < (l.length : Int) := by omega
    have hw1 : IntKind.i64.wrap ((xw : Int) + (yw : Int)) = (xw : Int) + (yw : Int) := by rw [IntKind.wrap_i64]; omega
    have HO : Hid (wr.ownsRow w.heap.size 3 1 _ k (ic (zN ((prs l).take k)))) := hO
    have HB : Hid (Below w.heap.size w wr) := hB
    have HJ : Hid (j = 2 * k) := hj
    have hkb : k ≤ 1000000 := by omega
    have hgw : g < wr.heap.size := by omega
    have HCA : Hid (∀ o, (wr.alloc o).cell? ⟨g, j * 2, none⟩ = some (.int .i64 (xw : Int)) ∧ (wr.alloc o).cell? ⟨g, J * 2, none⟩ = some (.int .i64 (yw : Int))) := fun o => ⟨by rw [World.cell?_alloc_lt _ _ _ hgw]; exact cx, by rw [World.cell?_alloc_lt _ _ _ hgw]; exact cy⟩
    clear hO hB hx hy e' hj HF hJ
    go_wp2
    go_region_held_law (fun w' => w'.cell? ⟨g, j * 2, none⟩ = some (.int .i64 (xw : Int)) ∧ w'.cell? ⟨g, J * 2, none⟩ = some (.int .i64 (yw : Int))) (first | exact ⟨cx, cy⟩ | assumption | exact HCA.out _ | exact ⟨hgrow2.cell (HCA.out _).1 (fun e => by have := (HO.out.lt g e.symm).1; omega), hgrow2.cell (HCA.out _).2 (fun e => by have := (HO.out.lt g e.symm).1; omega)⟩) ((refine step_append_lies _ (by rfl) _ _ 39 (by rfl) w.heap.size 3 i0 (.int .i64 0) 1 8 Tryz.underlying39 hi hz0 hz1 hz2 rfl (by decide) u3 k _ (by rfl) (HO.out.drew.alloc _) ⟨wr.heap.size, 0, none⟩ 1 1 [.int .i64 ((xw : Int) + (yw : Int))] (by rfl) rfl (cell_one_new _ _ _) (by intro u hu; simp at hu; subst hu; rfl) (by decide) (by unfold maxLen; omega) (by omega) (by simp; omega) (wr.heap.size + 1) (by simp) ?_; intro gn cn w2 hown2 hgrow2 hat2 hlt2))
    all_goals
     have HO2 : Hid (w2.ownsRow w.heap.size 3 1 (.slice (some ⟨gn, 0, none⟩) (k + 1) cn) (k + 1) (ic (zN ((prs l).take (k + 1))))) := by unfold Hid; rw [HTK.out]; exact hown2
     have HB2 : Hid (Below w.heap.size w w2) := (HB.out.alloc hsz _).drew.grown hgrow2 (by show w.heap.size ≤ (wr.alloc _).heap.size; rw [World.size_alloc]; omega) (fun q hq => (HO.out.lt q hq).1)
     clear hown2 hgrow2 hat2 hlt2 HO HB HCA cx cy
     go_wp2
     go_roundw
     case rel => exact ⟨k + 1, by have := HJ.out; have := HJ1.out; omega, by have := HJ.out; have := HJ1.out; simp; omega, HO2.out, HB2.out⟩
     case measure => have := HJ.out; have := HJ1.out; simp [intOf]; omega
  · have hlk : (prs l).length = k := by omega
    have hts : (prs l).take k = prs l := List.take_of_length_le (by omega)
    rw [hts, ← hlk] at hO
    have hni : ¬ ((2 * k + 1 : Nat) : Int) < (l.length : Int) := by omega
    have HO : Hid (wr.ownsRow _ _ _ _ _ _) := hO
    have HB : Hid (Below w.heap.size w wr) := hB
    generalize 2 * k + 1 = z at *
    clear hO hB hts hlk hpl
    go_wp2
    go_ret
    exact ⟨_, rfl, HO.out, HB.out⟩
set_option linter.unusedSimpArgs false
def NR (w : World) (v : Value) (zs : List Nat) : Prop := ∃ a cap, v = .slice a zs.length cap ∧ zs.length ≤ cap ∧ (zs ≠ [] → ∃ g o, a = some ⟨g, o, none⟩ ∧ g < w.heap.size ∧ ∀ i, i < zs.length → w.cell? ⟨g, o + i, none⟩ = some (.int .i64 (zs.getD i 0 : Int)))
theorem Tryz.undK : Tryz.prog.underlying 39 = some (.slice (Tryz.prog.elem 39)) := by kernel_rfl
theorem Tryz.szK (W : World) : (sizeOf (Tryz.prog.elem 39)).run Tryz.prog W = .ok 1 W := by kernel_rfl
theorem NR.tail {w : World} {g o n cap x : Nat} {zs : List Nat} (hn : n = zs.length + 1) (hc : n ≤ cap) (hg : g < w.heap.size) (hcell : ∀ i, i < n → w.cell? ⟨g, o + i, none⟩ = some (.int .i64 ((x :: zs).getD i 0 : Int))) :
    ∃ a c, (∀ W, (Instr.slice 39 (.slice (some ⟨g, o, none⟩) n cap) (some (.int .i64 1)) none none).run Tryz.prog W = .ok (.slice a zs.length c) W) ∧ NR w (.slice a zs.length c) zs := by
 refine ⟨if cap = 1 then some ⟨g, o, none⟩ else some ⟨g, o + 1, none⟩, cap - 1, fun W => ?_, ?_⟩
 · rw [run_slice_l (ht := Tryz.undK) (h0 := by omega) (h1 := by omega), Tryz.szK]
   simp only [Result.andThen, sliced]
   by_cases e : cap = 1
   · simp [e, hn]
   · simp [e, hn, Addr.add]
 · refine ⟨_, _, rfl, by omega, fun hz => ?_⟩
   have hl : 0 < zs.length := List.length_pos_iff.2 hz
   rw [if_neg (by omega)]
   exact ⟨g, o + 1, rfl, hg, fun i hi => by
    have := hcell (i + 1) (by omega)
    rw [show o + 1 + i = o + (i + 1) by omega, this]
    simp⟩
theorem Tryz.infoIt : (Tryz.prog.info? 222).map (fun i => (i.zero, i.size, i.bytes)) = some (some (.agg #[.int .i64 0, .bool false]), 2, 16) := by kernel_rfl
theorem qht (w : World) (x y : Value) (ty : TypeId) : ∀ j u, [x, y][j]? = some u → (w.alloc (.cells #[x, y] ty)).cell? ((⟨w.heap.size, 0, none⟩ : Addr).add j) = some u := World.news_of_block (heap_alloc_new w _)
theorem qhs (x : Int) (b : Bool) : ∀ u ∈ [Value.int .i64 x, .bool b], u.oneCell' = true := by
 intro u hu
 simp only [List.mem_cons, List.not_mem_nil, or_false] at hu
 rcases hu with rfl | rfl <;> rfl
theorem qd7 {B : Nat} {w wr : World} (h : Below B w wr) (n : Nat) : Below B w (wr.drewN n) := ⟨h.os, h.tape, h.output, h.size, h.block⟩
def lenQ : Value → Nat
 | .slice _ n _ => n
 | _ => 0
theorem qng (v u : Value) (ws ts : List Nat) (w : World) (hV : NR w v ws) (hU : NR w u ts) (hl : ws.length + ts.length ≤ 1000000) :
    Calls Tryz.prog 130 #[v, u] w fun e w' => ∃ v', e = .returned v' ∧ w'.ownsRow w.heap.size 222 2 v' (mrg ws ts).length (itC (mrg ws ts)) ∧ Below w.heap.size w w' := by
 obtain ⟨i0, hi, hz0, hz1, hz2⟩ := info_parts Tryz.infoIt
 have hml := qdc ws ts
 go_enter Tryz.func130, Tryz.ntmps130
 go_wp2
 go_loopw [0, 1, 5] (fun x y o wr => ∃ (xs ys : List Nat) (acc : List Itm), NR w x xs ∧ NR w y ys ∧ acc ++ mrg xs ys = mrg ws ts ∧ wr.ownsRow w.heap.size 222 2 o acc.length (itC acc) ∧ Below w.heap.size w wr) (fun x y _ _ => lenQ x + lenQ y)
 case atStart => exact ⟨ws, ts, [], hV, hU, rfl, World.ownsRow_nil _ _ _ _, Below.refl _ _⟩
 case round =>
  clear hV hU
  obtain ⟨xs, ys, acc, hX, hY, hA, hO, hB⟩ := hrel
  have hal : acc.length + (xs.length + ys.length) = (mrg ws ts).length := by rw [← hA, List.length_append, qdc]
  have HA : Hid (acc ++ mrg xs ys = mrg ws ts) := hA
  have HO : Hid (wr.ownsRow w.heap.size 222 2 _ acc.length (itC acc)) := hO
  have HB : Hid (Below w.heap.size w wr) := hB
  have hsz := hB.size
  obtain ⟨a, cx, rfl, hcx, hXf⟩ := hX
  obtain ⟨b, cy, rfl, hcy, hYf⟩ := hY
  have HXF : Hid _ := hXf
  have HYF : Hid _ := hYf
  clear hXf hYf hA hO hB
  match xs, ys with
  | [], [] =>
   have HE : Hid (acc = mrg ws ts) := by unfold Hid; rw [← HA.out, mrg]; simp
   rw [HE.out] at HO
   clear HA HXF HYF HE
   simp only [List.length_nil]
   go_wp2
   go_ret
   exact ⟨_, rfl, HO.out, HB.out⟩
  | x0 :: xs, [] =>
   obtain ⟨gx, ox, rfl, hgx, hcellx⟩ := HXF.out (by simp)
   obtain ⟨ax, cx2, hslx, htx⟩ := NR.tail (x := x0) (zs := xs) (n := (x0 :: xs).length) rfl hcx hgx hcellx
   have HTL : Hid (NR w (.slice ax xs.length cx2) xs) := htx
   have HX0 : Hid (NR w (.slice (some ⟨gx, ox, none⟩) (x0 :: xs).length cx) (x0 :: xs)) := ⟨_, cx, rfl, hcx, fun _ => ⟨gx, ox, rfl, hgx, hcellx⟩⟩
   have c0 := hcellx 0 (by simp)
   rw [Nat.add_zero, ← HB.out.cell (p := ⟨gx, ox, none⟩) hgx] at c0
   simp only [List.getD_cons_zero] at c0
   have HY : Hid (NR w (.slice b 0 cy) []) := ⟨b, cy, rfl, Nat.zero_le _, fun h => absurd rfl h⟩
   have HMG : Hid (mrg (x0 :: xs) [] = ⟨x0, true⟩ :: mrg xs []) := by unfold Hid; rw [mrg]
   clear HX0
   obtain ⟨n, hn⟩ : ∃ z, z = (x0 :: xs).length := ⟨_, rfl⟩
   rw [← hn] at hslx hcx hal ⊢
   have hnp : 0 < n := by rw [hn]; simp
   have hnx : xs.length + 1 = n := by rw [hn]; simp
   have hni : (0 : Int) < (n : Int) := by omega
   have hnz : ((n : Int) == 0) = false := by simp; omega
   simp only [List.length_nil] at hal ⊢
   clear htx hcellx HXF HYF hn
   go_wp2
   go_quiet (fail)
   have HN2 : Hid _ := qht (wr.drewN nq) (.int .i64 (x0 : Int)) (.bool true) 222
   have HOX : Hid ((wr.drewN nq).ownsRow w.heap.size 222 2 _ acc.length (itC acc)) := HO.out
   have hszX : w.heap.size ≤ (wr.drewN nq).heap.size := hsz
   have HBX : Hid (Below w.heap.size w (wr.drewN nq)) := qd7 HB.out nq
   clear HO HB
   have c9 : (wr.drewN nq).cell? _ = _ := c0
   generalize (wr.drewN nq) = W2 at *
   go_wp2_with (at_builtin; refine wpList_append_own _ rfl _ _ 220 rfl w.heap.size 222 i0 (.agg #[.int .i64 0, .bool false]) 2 16 Tryz.underlying220 hi hz0 hz1 hz2 rfl (by decide) _ _ _ rfl (HOX.out.alloc _) ⟨W2.heap.size, 0, none⟩ 1 1 [.int .i64 (x0 : Int), .bool true] rfl rfl HN2.out (qhs _ _) ?c3 ?c4 ?c5 ?_)
   case c3 => unfold maxLen; omega
   case c4 => omega
   case c5 => first | omega | (rw [World.size_alloc]; omega)
   intro v8 w8 hown hg8 _
   have HO8 : Hid (w8.ownsRow w.heap.size 222 2 v8 (acc ++ [(⟨x0, true⟩ : Itm)]).length (itC (acc ++ [(⟨x0, true⟩ : Itm)]))) := by unfold Hid; rw [qhu, List.length_append]; exact hown
   have HB8 : Hid (Below w.heap.size w w8) := (HBX.out.alloc hszX _).grown hg8 (by rw [World.size_alloc]; omega) (fun q hq => (HOX.out.lt q hq).1)
   clear hown hg8 HOX HBX HN2
   go_wp2
   go_roundw
   case rel => exact ⟨xs, [], acc ++ [(⟨x0, true⟩ : Itm)], HTL.out, HY.out, by rw [List.append_assoc, ← HA.out, HMG.out]; rfl, HO8.out, HB8.out⟩
   case measure => simp [lenQ]; try omega
  | [], y0 :: ys =>
   obtain ⟨gy, oy, rfl, hgy, hcelly⟩ := HYF.out (by simp)
   obtain ⟨ay, cy2, hsly, hty⟩ := NR.tail (x := y0) (zs := ys) (n := (y0 :: ys).length) rfl hcy hgy hcelly
   have HTL : Hid (NR w (.slice ay ys.length cy2) ys) := hty
   have HY0 : Hid (NR w (.slice (some ⟨gy, oy, none⟩) (y0 :: ys).length cy) (y0 :: ys)) := ⟨_, cy, rfl, hcy, fun _ => ⟨gy, oy, rfl, hgy, hcelly⟩⟩
   have d0 := hcelly 0 (by simp)
   rw [Nat.add_zero, ← HB.out.cell (p := ⟨gy, oy, none⟩) hgy] at d0
   simp only [List.getD_cons_zero] at d0
   have HX : Hid (NR w (.slice a 0 cx) []) := ⟨a, cx, rfl, Nat.zero_le _, fun h => absurd rfl h⟩
   have HMG : Hid (mrg [] (y0 :: ys) = ⟨y0, false⟩ :: mrg [] ys) := by unfold Hid; rw [mrg]
   clear HY0
   obtain ⟨m, hm⟩ : ∃ z, z = (y0 :: ys).length := ⟨_, rfl⟩
   rw [← hm] at hsly hcy hal ⊢
   have hmp : 0 < m := by rw [hm]; simp
   have hmx : ys.length + 1 = m := by rw [hm]; simp
   have hmi : (0 : Int) < (m : Int) := by omega
   have hmz : ((m : Int) == 0) = false := by simp; omega
   simp only [List.length_nil] at hal ⊢
   clear hty hcelly HXF HYF hm
   go_wp2
   go_quiet (fail)
   have HN2 : Hid _ := qht (wr.drewN nq) (.int .i64 (y0 : Int)) (.bool false) 222
   have HOX : Hid ((wr.drewN nq).ownsRow w.heap.size 222 2 _ acc.length (itC acc)) := HO.out
   have hszX : w.heap.size ≤ (wr.drewN nq).heap.size := hsz
   have HBX : Hid (Below w.heap.size w (wr.drewN nq)) := qd7 HB.out nq
   clear HO HB
   have c9 : (wr.drewN nq).cell? _ = _ := d0
   generalize (wr.drewN nq) = W2 at *
   go_wp2_with (at_builtin; refine wpList_append_own _ rfl _ _ 220 rfl w.heap.size 222 i0 (.agg #[.int .i64 0, .bool false]) 2 16 Tryz.underlying220 hi hz0 hz1 hz2 rfl (by decide) _ _ _ rfl (HOX.out.alloc _) ⟨W2.heap.size, 0, none⟩ 1 1 [.int .i64 (y0 : Int), .bool false] rfl rfl HN2.out (qhs _ _) ?c3 ?c4 ?c5 ?_)
   case c3 => unfold maxLen; omega
   case c4 => omega
   case c5 => first | omega | (rw [World.size_alloc]; omega)
   intro v8 w8 hown hg8 _
   have HO8 : Hid (w8.ownsRow w.heap.size 222 2 v8 (acc ++ [(⟨y0, false⟩ : Itm)]).length (itC (acc ++ [(⟨y0, false⟩ : Itm)]))) := by unfold Hid; rw [qhu, List.length_append]; exact hown
   have HB8 : Hid (Below w.heap.size w w8) := (HBX.out.alloc hszX _).grown hg8 (by rw [World.size_alloc]; omega) (fun q hq => (HOX.out.lt q hq).1)
   clear hown hg8 HOX HBX HN2
   go_wp2
   go_roundw
   case rel => exact ⟨[], ys, acc ++ [(⟨y0, false⟩ : Itm)], HX.out, HTL.out, by rw [List.append_assoc, ← HA.out, HMG.out]; rfl, HO8.out, HB8.out⟩
   case measure => simp [lenQ]; try omega
  | x0 :: xs, y0 :: ys =>
   obtain ⟨gx, ox, rfl, hgx, hcellx⟩ := HXF.out (by simp)
   obtain ⟨ax, cx2, hslx, htx⟩ := NR.tail (x := x0) (zs := xs) (n := (x0 :: xs).length) rfl hcx hgx hcellx
   have HTX : Hid (NR w (.slice ax xs.length cx2) xs) := htx
   have HX : Hid (NR w (.slice (some ⟨gx, ox, none⟩) (x0 :: xs).length cx) (x0 :: xs)) := ⟨_, cx, rfl, hcx, fun _ => ⟨gx, ox, rfl, hgx, hcellx⟩⟩
   have c0 := hcellx 0 (by simp)
   rw [Nat.add_zero, ← HB.out.cell (p := ⟨gx, ox, none⟩) hgx] at c0
   simp only [List.getD_cons_zero] at c0
   obtain ⟨gy, oy, rfl, hgy, hcelly⟩ := HYF.out (by simp)
   obtain ⟨ay, cy2, hsly, hty⟩ := NR.tail (x := y0) (zs := ys) (n := (y0 :: ys).length) rfl hcy hgy hcelly
   have HTY : Hid (NR w (.slice ay ys.length cy2) ys) := hty
   have HY : Hid (NR w (.slice (some ⟨gy, oy, none⟩) (y0 :: ys).length cy) (y0 :: ys)) := ⟨_, cy, rfl, hcy, fun _ => ⟨gy, oy, rfl, hgy, hcelly⟩⟩
   have d0 := hcelly 0 (by simp)
   rw [Nat.add_zero, ← HB.out.cell (p := ⟨gy, oy, none⟩) hgy] at d0
   simp only [List.getD_cons_zero] at d0
   obtain ⟨n, hn⟩ : ∃ z, z = (x0 :: xs).length := ⟨_, rfl⟩
   obtain ⟨m, hm⟩ : ∃ z, z = (y0 :: ys).length := ⟨_, rfl⟩
   rw [← hn] at hslx hcx hal HX ⊢
   rw [← hm] at hsly hcy hal HY ⊢
   have hnp : 0 < n := by rw [hn]; simp
   have hmp : 0 < m := by rw [hm]; simp
   have hnx : xs.length + 1 = n := by rw [hn]; simp
   have hmx : ys.length + 1 = m := by rw [hm]; simp
   have hni : (0 : Int) < (n : Int) := by omega
   have hmi : (0 : Int) < (m : Int) := by omega
   have hmz : ((m : Int) == 0) = false := by simp; omega
   have hnm : (0 : Int) < (n : Int) + (m : Int) := by omega
   have HMR : Hid (mrg (x0 :: xs) (y0 :: ys) = if x0 ≤ y0 then ⟨x0, true⟩ :: mrg xs (y0 :: ys) else ⟨y0, false⟩ :: mrg (x0 :: xs) ys) := by unfold Hid; rw [mrg]
   clear htx hty hcellx hcelly HXF HYF hn hm
   by_cases hle : x0 ≤ y0
   · have hli : decide ((x0 : Int) ≤ (y0 : Int)) = true := by simp; omega
     have HMG : Hid (mrg (x0 :: xs) (y0 :: ys) = ⟨x0, true⟩ :: mrg xs (y0 :: ys)) := by unfold Hid; rw [HMR.out, if_pos hle]
     have HTL := HTX
     clear HMR HTX HTY HX
     go_wp2
     go_quiet (fail)
     have HN2 : Hid _ := qht (wr.drewN nq) (.int .i64 (x0 : Int)) (.bool true) 222
     have HOX : Hid ((wr.drewN nq).ownsRow w.heap.size 222 2 _ acc.length (itC acc)) := HO.out
     have hszX : w.heap.size ≤ (wr.drewN nq).heap.size := hsz
     have HBX : Hid (Below w.heap.size w (wr.drewN nq)) := qd7 HB.out nq
     clear HO HB
     have c9 : (wr.drewN nq).cell? _ = _ := c0
     generalize (wr.drewN nq) = W2 at *
     go_wp2_with (at_builtin; refine wpList_append_own _ rfl _ _ 220 rfl w.heap.size 222 i0 (.agg #[.int .i64 0, .bool false]) 2 16 Tryz.underlying220 hi hz0 hz1 hz2 rfl (by decide) _ _ _ rfl (HOX.out.alloc _) ⟨W2.heap.size, 0, none⟩ 1 1 [.int .i64 (x0 : Int), .bool true] rfl rfl HN2.out (qhs _ _) ?c3 ?c4 ?c5 ?_)
     case c3 => unfold maxLen; omega
     case c4 => omega
     case c5 => first | omega | (rw [World.size_alloc]; omega)
     intro v8 w8 hown hg8 _
     have HO8 : Hid (w8.ownsRow w.heap.size 222 2 v8 (acc ++ [(⟨x0, true⟩ : Itm)]).length (itC (acc ++ [(⟨x0, true⟩ : Itm)]))) := by unfold Hid; rw [qhu, List.length_append]; exact hown
     have HB8 : Hid (Below w.heap.size w w8) := (HBX.out.alloc hszX _).grown hg8 (by rw [World.size_alloc]; omega) (fun q hq => (HOX.out.lt q hq).1)
     clear hown hg8 HOX HBX HN2
     go_wp2
     go_roundw
     case rel => exact ⟨xs, (y0 :: ys), acc ++ [(⟨x0, true⟩ : Itm)], HTL.out, HY.out, by rw [List.append_assoc, ← HA.out, HMG.out]; rfl, HO8.out, HB8.out⟩
     case measure => simp [lenQ]; try omega
   · have hli : decide ((x0 : Int) ≤ (y0 : Int)) = false := by simp; omega
     have HMG : Hid (mrg (x0 :: xs) (y0 :: ys) = ⟨y0, false⟩ :: mrg (x0 :: xs) ys) := by unfold Hid; rw [HMR.out, if_neg hle]
     have HTL := HTY
     clear HMR HTX HTY HY
     go_wp2
     go_quiet (fail)
     have HN2 : Hid _ := qht (wr.drewN nq) (.int .i64 (y0 : Int)) (.bool false) 222
     have HOX : Hid ((wr.drewN nq).ownsRow w.heap.size 222 2 _ acc.length (itC acc)) := HO.out
     have hszX : w.heap.size ≤ (wr.drewN nq).heap.size := hsz
     have HBX : Hid (Below w.heap.size w (wr.drewN nq)) := qd7 HB.out nq
     clear HO HB
     have c9 : (wr.drewN nq).cell? _ = _ := d0
     generalize (wr.drewN nq) = W2 at *
     go_wp2_with (at_builtin; refine wpList_append_own _ rfl _ _ 220 rfl w.heap.size 222 i0 (.agg #[.int .i64 0, .bool false]) 2 16 Tryz.underlying220 hi hz0 hz1 hz2 rfl (by decide) _ _ _ rfl (HOX.out.alloc _) ⟨W2.heap.size, 0, none⟩ 1 1 [.int .i64 (y0 : Int), .bool false] rfl rfl HN2.out (qhs _ _) ?c3 ?c4 ?c5 ?_)
     case c3 => unfold maxLen; omega
     case c4 => omega
     case c5 => first | omega | (rw [World.size_alloc]; omega)
     intro v8 w8 hown hg8 _
     have HO8 : Hid (w8.ownsRow w.heap.size 222 2 v8 (acc ++ [(⟨y0, false⟩ : Itm)]).length (itC (acc ++ [(⟨y0, false⟩ : Itm)]))) := by unfold Hid; rw [qhu, List.length_append]; exact hown
     have HB8 : Hid (Below w.heap.size w w8) := (HBX.out.alloc hszX _).grown hg8 (by rw [World.size_alloc]; omega) (fun q hq => (HOX.out.lt q hq).1)
     clear hown hg8 HOX HBX HN2
     go_wp2
     go_roundw
     case rel => exact ⟨(x0 :: xs), ys, acc ++ [(⟨y0, false⟩ : Itm)], HX.out, HTL.out, by rw [List.append_assoc, ← HA.out, HMG.out]; rfl, HO8.out, HB8.out⟩
     case measure => simp [lenQ]; try omega
theorem qiw : ∀ (ws ts : List Nat) (x : Itm), x ∈ mrg ws ts → x.wt ∈ ws ∨ x.wt ∈ ts
 | [], [], x, h => by rw [mrg] at h; simp at h
 | [], t :: ts, x, h => by
  rw [mrg] at h
  rcases List.mem_cons.1 h with rfl | h
  · exact .inr (List.mem_cons_self ..)
  · rcases qiw [] ts x h with h | h
    · exact .inl h
    · exact .inr (List.mem_cons_of_mem _ h)
 | w :: ws, [], x, h => by
  rw [mrg] at h
  rcases List.mem_cons.1 h with rfl | h
  · exact .inl (List.mem_cons_self ..)
  · rcases qiw ws [] x h with h | h
    · exact .inl (List.mem_cons_of_mem _ h)
    · exact .inr h
 | w :: ws, t :: ts, x, h => by
  rw [mrg] at h
  split at h
  · rcases List.mem_cons.1 h with rfl | h
    · exact .inl (List.mem_cons_self ..)
    · rcases qiw ws (t :: ts) x h with h | h
      · exact .inl (List.mem_cons_of_mem _ h)
      · exact .inr h
  · rcases List.mem_cons.1 h with rfl | h
    · exact .inr (List.mem_cons_self ..)
    · rcases qiw (w :: ws) ts x h with h | h
      · exact .inl h
      · exact .inr (List.mem_cons_of_mem _ h)
termination_by ws ts => ws.length + ts.length
theorem qvl : ∀ (l : List Itm) (M : Nat), (∀ x ∈ l, x.wt ≤ M) → ∀ n ∈ prs l, n ≤ 2 * M
 | [], M, _, n, h => by simp [prs] at h
 | [a], M, _, n, h => by simp [prs] at h
 | a :: b :: l, M, hM, n, h => by
  rw [prs] at h
  rcases List.mem_cons.1 h with rfl | h
  · have h1 := hM a (by simp)
    have h2 := hM b (by simp)
    omega
  · exact qvl l M (fun x hx => hM x (by simp [hx])) n h
theorem qvd {ws : List Nat} {M : Nat} (hM : ∀ n ∈ ws, n ≤ M) : ∀ i, ∀ x ∈ rowK ws i, x.wt ≤ 2 ^ i * M
 | 0, x, h => by simp [rowK] at h
 | i + 1, x, h => by
  rw [rowK] at h
  have hp : 1 ≤ 2 ^ i := Nat.one_le_two_pow
  have e : 2 ^ (i + 1) * M = 2 * (2 ^ i * M) := by rw [Nat.pow_succ, Nat.mul_comm (2 ^ i) 2, Nat.mul_assoc]
  have h0 : M ≤ 2 ^ i * M := Nat.le_mul_of_pos_left _ (by omega)
  rcases qiw ws _ x h with h | h
  · have := hM _ h; omega
  · have := qvl _ _ (qvd hM i) _ h; omega
theorem qhm (ws : List Nat) (h : 1 ≤ ws.length) : ∀ i, (rowK ws i).length ≤ 2 * ws.length
 | 0 => by simp [rowK]
 | i + 1 => by have := qhm ws h i; rw [qhn]; omega
theorem NR.own {w : World} {B : Nat} {v : Value} {l : List Nat} (h : w.ownsRow B 3 1 v l.length (ic (zN l))) : NR w v l := by
 have hlt := h.lt
 have h' := h
 rcases h.2 with ⟨rfl, h0⟩ | ⟨g, cap, cur, rfl, _, _, hc, _⟩
 · have : l = [] := List.length_eq_zero_iff.1 h0
   subst this
   exact ⟨none, 0, rfl, Nat.le_refl _, fun h => absurd rfl h⟩
 · refine ⟨_, cap, rfl, hc, fun _ => ⟨g, 0, rfl, (hlt g rfl).2, fun i hi => ?_⟩⟩
   rw [Nat.zero_add, h'.cellAt i (by omega), ic_at _ _ (by rw [q35]; exact hi)]
   congr 2
   simp [zN, List.getD_eq_getElem?_getD, hi]
theorem NR.below {w w' : World} {v : Value} {l : List Nat} (h : NR w v l) (hb : Below w.heap.size w w') : NR w' v l := by
 obtain ⟨a, cap, rfl, hc, hf⟩ := h
 refine ⟨a, cap, rfl, hc, fun hl => ?_⟩
 obtain ⟨g, o, rfl, hg, hcell⟩ := hf hl
 exact ⟨g, o, rfl, Nat.lt_of_lt_of_le hg hb.size, fun i hi => by rw [hb.cell (p := ⟨g, o + i, none⟩) hg]; exact hcell i hi⟩
theorem Tryz.infoRw : (Tryz.prog.info? 220).map (fun i => (i.zero, i.size, i.bytes)) = some (some (.slice none 0 0), 1, 24) := by kernel_rfl
def qog (w W : World) (ws : List Nat) (vs : List Value) : Prop := ∀ i v, vs[i]? = some v → W.ownsRow w.heap.size 222 2 v (rowK ws (i + 1)).length (itC (rowK ws (i + 1)))
theorem qej {w w' : World} {B B' n m sz sz' : Nat} {ty ty' : TypeId} {v u : Value} {xs ys : List Value} (h : w.ownsRow B ty sz v n xs) (k : w.ownsRow B' ty' sz' u m ys) (hne : ty ≠ ty') (hg : w.grownBy w' u.ownBlock) : w'.ownsRow B ty sz v n xs := by
 rcases h.2 with ⟨rfl, h0⟩ | ⟨g, cap, cur, rfl, _, hc, _⟩
 · exact ⟨h.1, .inl ⟨rfl, h0⟩⟩
 · refine h.kept hg (.inr fun e => ?_)
   rcases k.2 with ⟨rfl, _⟩ | ⟨g', cap', cur', rfl, _, hc', _⟩
   · simp [Value.ownBlock] at e
   · simp only [Value.ownBlock, Option.some.injEq] at e
     subst e
     rw [hc] at hc'
     simp only [Option.some.injEq, Obj.cells.injEq] at hc'
     exact hne hc'.2.1
theorem qbp {w w' : World} {B n sz : Nat} {ty : TypeId} {v : Value} {xs : List Value} (h : w.ownsRow B ty sz v n xs) (hb : Below w.heap.size w w') : w'.ownsRow B ty sz v n xs := by
 have hlt := h.lt
 refine ⟨h.1, ?_⟩
 rcases h.2 with h | ⟨g, cap, cur, rfl, h2, h3, h4⟩
 · exact .inl h
 · exact .inr ⟨g, cap, cur, rfl, h2, (hb.block _ (hlt g rfl).2).trans h3, h4⟩
theorem qdb {W : World} {B C n sz : Nat} {ty : TypeId} {v : Value} {xs : List Value} (h : W.ownsRow B ty sz v n xs) (hC : C ≤ B) : W.ownsRow C ty sz v n xs := by
 refine ⟨h.1, ?_⟩
 rcases h.2 with h | ⟨g, cap, cur, e, h2, h3⟩
 · exact .inl h
 · exact .inr ⟨g, cap, cur, e, Nat.le_trans hC h2, h3⟩
theorem qb3 {w : World} {B n : Nat} {ty : TypeId} {sz : Nat} {v : Value} {xs : List Value} (h : w.ownsRow B ty sz v n xs) : ∃ a cap, v = .slice a n cap := by
 rcases h.2 with ⟨rfl, rfl⟩ | ⟨g, cap, cur, rfl, _⟩
 · exact ⟨none, 0, rfl⟩
 · exact ⟨_, cap, rfl⟩
theorem qyz (v : Value) (ws : List Nat) (n : Nat) (w : World) (hV : NR w v ws) (hl : ws.length ≤ 320) (h1 : 1 ≤ ws.length) (hn : n ≤ 15) (hM : ∀ x ∈ ws, x ≤ 1000000) :
    Calls Tryz.prog 123 #[v, .int .i64 (n : Int)] w fun e w' => ∃ v' vs, e = .returned v' ∧ vs.length = n ∧ w'.ownsRow w.heap.size 220 1 v' n vs ∧ qog w w' ws vs ∧ Below w.heap.size w w' := by
 obtain ⟨i0, hi, hz0, hz1, hz2⟩ := info_parts Tryz.infoRw
 have HWT : Hid (∀ i, i ≤ 15 → ∀ x ∈ rowK ws i, x.wt ≤ 1000000000000000000) := fun i hi x hx => by
  have h1 := qvd hM i x hx
  have h2 : 2 ^ i ≤ 2 ^ 15 := Nat.pow_le_pow_right (by decide) hi
  have h3 : 2 ^ i * 1000000 ≤ 2 ^ 15 * 1000000 := Nat.mul_le_mul_right _ h2
  omega
 have HLN : Hid (∀ i, (rowK ws i).length ≤ 640) := fun i => by have := qhm ws h1 i; omega
 have HPL : Hid (∀ i, (prs (rowK ws i)).length ≤ 320) := fun i => by rw [qfj]; have := HLN.out i; omega
 have HNV : Hid (∀ W, Below w.heap.size w W → NR W v ws) := fun W hb => hV.below hb
 obtain ⟨av, cv, rfl, _⟩ := hV
 go_enter Tryz.func123, Tryz.ntmps123
 go_wp2
 go_loopw [5, 6, 8] (fun r x i wr => ∃ (k : Nat) (vs : List Value), k ≤ n ∧ vs.length = k ∧ i = .int .i64 (k : Int) ∧ wr.ownsRow w.heap.size 222 2 x (rowK ws k).length (itC (rowK ws k)) ∧ wr.ownsRow w.heap.size 220 1 r k vs ∧ qog w wr ws vs ∧ Below w.heap.size w wr) (fun _ _ i _ => n - (intOf i).toNat)
 case atStart => exact ⟨0, [], Nat.zero_le _, rfl, rfl, World.ownsRow_nil _ _ _ _, World.ownsRow_nil _ _ _ _, fun i v h => by simp at h, Below.refl _ _⟩
 case round =>
  obtain ⟨k, vs, hk, hvs, rfl, hX, hR, hA, hB⟩ := hrel
  have hsz := hB.size
  by_cases hlt : k < n
  · have hki : (k : Int) < (n : Int) := by omega
    have HPA : Hid (Calls _ _ _ _ _) := qm7 _ (rowK ws k) wr (PR.own hX) (by have := HLN.out k; omega) (HWT.out k (by omega))
    obtain ⟨ax, cx, rfl⟩ := qb3 hX
    go_wp2_with fail
    refine (Hid.out HPA : Calls _ _ _ _ _).mono ?_
    rintro e w1 ⟨v1, rfl, hO1, hb1⟩
    have hB1 : Below w.heap.size w w1 := hB.trans (hb1.mono hsz)
    have hpl := HPL.out k
    have HMA : Hid (Calls _ _ _ _ _) := qng _ _ ws (prs (rowK ws k)) w1 (HNV.out w1 hB1) (NR.own hO1) (by omega)
    obtain ⟨a1, c1, rfl⟩ := qb3 hO1
    clear HPA
    go_wp2_with fail
    refine (Hid.out HMA : Calls _ _ _ _ _).mono ?_
    rintro e w2 ⟨v2, rfl, hO2, hb2⟩
    have hO3 : w2.ownsRow w.heap.size 222 2 v2 (rowK ws (k + 1)).length (itC (rowK ws (k + 1))) := qdb hO2 hB1.size
    have HB2 : Hid (Below w.heap.size w w2) := hB1.trans (hb2.mono hB1.size)
    have HR2 : Hid (w2.ownsRow w.heap.size 220 1 _ k vs) := qbp (qbp hR hb1) hb2
    have HA2 : Hid (qog w w2 ws vs) := fun i v h => qbp (qbp (hA i v h) hb1) hb2
    obtain ⟨a2, c2, rfl⟩ := qb3 hO3
    have HO3 : Hid (w2.ownsRow w.heap.size 222 2 (.slice a2 (rowK ws (k + 1)).length c2) (rowK ws (k + 1)).length (itC (rowK ws (k + 1)))) := hO3
    have hsz2 := HB2.out.size
    clear HMA hO1 hO2 hb1 hb2 hB1 hO3 hX hR hA hB
    go_wp2_with (at_builtin; refine wpList_append_own _ rfl _ _ 218 rfl w.heap.size 220 i0 (.slice none 0 0) 1 24 Tryz.underlying218 hi hz0 hz1 hz2 rfl (by decide) _ _ _ rfl (HR2.out.alloc _) ⟨w2.heap.size, 0, none⟩ 1 1 [.slice a2 (rowK ws (k + 1)).length c2] rfl rfl (cell_one_new _ _ _) ?d2 ?d3 ?d4 ?d5 ?_)
    case d2 => first | rfl | (intro y hy; simp at hy; subst hy; rfl)
    case d3 => unfold maxLen; omega
    case d4 => omega
    case d5 => first | omega | (rw [World.size_alloc]; omega)
    intro v9 w9 hown hg9 _
    have HR9 : Hid (w9.ownsRow w.heap.size 220 1 v9 (k + 1) (vs ++ [.slice a2 (rowK ws (k + 1)).length c2])) := hown
    have HX9 : Hid (w9.ownsRow w.heap.size 222 2 (.slice a2 (rowK ws (k + 1)).length c2) (rowK ws (k + 1)).length (itC (rowK ws (k + 1)))) := qej (HO3.out.alloc _) (HR2.out.alloc _) (by decide) hg9
    have HA9 : Hid (qog w w9 ws (vs ++ [.slice a2 (rowK ws (k + 1)).length c2])) := fun i v h => by
     by_cases e : i < vs.length
     · rw [List.getElem?_append_left e] at h
       exact qej ((HA2.out i v h).alloc _) (HR2.out.alloc _) (by decide) hg9
     · rw [List.getElem?_append_right (by omega)] at h
       have hi0 : i = k := by
        have := (List.getElem?_eq_some_iff.1 h).1
        simp at this; omega
       subst hi0
       rw [hvs, Nat.sub_self] at h
       simp at h
       subst h
       exact HX9.out
    have HB9 : Hid (Below w.heap.size w w9) := (HB2.out.alloc hsz2 _).grown hg9 (by rw [World.size_alloc]; omega) (fun q hq => (HR2.out.lt q hq).1)
    clear hown hg9 HR2 HA2 HO3 HB2
    go_wp2
    go_roundw
    case rel => exact ⟨k + 1, _, by omega, by rw [List.length_append, hvs]; rfl, by go_num, HX9.out, HR9.out, HA9.out, HB9.out⟩
    case measure => simp [intOf]; omega
  · obtain rfl : k = n := by omega
    clear HWT HLN HPL HNV
    go_wp2
    go_ret
    exact ⟨_, vs, rfl, hvs, hR, hA, hB⟩
def fz (f : Nat → Nat) (n : Nat) : List Value := (List.range n).map fun j => .int .i64 (f j : Int)
theorem qrs (f : Nat → Nat) (n : Nat) : (fz f n).length = n := by simp [fz]
theorem qnq (f : Nat → Nat) (n j : Nat) (h : j < n) : (fz f n)[j]? = some (.int .i64 (f j : Int)) := by simp [fz, h]
theorem qc2 {f h : Nat → Nat} {n : Nat} (e : ∀ j, j < n → f j = h j) : fz f n = fz h n := by
 unfold fz
 apply List.map_congr_left
 intro j hj
 rw [e j (List.mem_range.1 hj)]
theorem qrr (f : Nat → Nat) (n s x : Nat) : (fz f n).set s (.int .i64 (x : Int)) = fz (fun j => if j = s then x else f j) n := by
 apply List.ext_getElem?
 intro j
 rw [List.getElem?_set, qrs]
 by_cases hj : j < n
 · have h1 := qnq (fun j => if j = s then x else f j) n j hj
   have h2 := qnq f n j hj
   by_cases e : s = j
   · subst e; rw [if_pos rfl, if_pos hj, h1]; simp
   · rw [if_neg e, h2, h1]; simp [show ¬ j = s from fun h => e h.symm]
 · have h1 : (fz (fun j => if j = s then x else f j) n)[j]? = none := List.getElem?_eq_none (by rw [qrs]; omega)
   have h2 : (fz f n)[j]? = none := List.getElem?_eq_none (by rw [qrs]; omega)
   rw [h1]
   by_cases e : s = j
   · rw [if_pos e, if_neg (by omega)]
   · rw [if_neg e, h2]
theorem qm9 (ws : List Nat) (j : Nat) : ∀ i, outK ws j i 0 = 0
 | 0 => rfl
 | i + 1 => by
  rw [outK]
  have : ones (rowK ws (i + 1)) 0 = 0 := by cases rowK ws (i + 1) <;> rfl
  rw [this, if_neg (by omega), show qcw ws i 0 = 0 by unfold qcw; rw [this], qm9 ws j i]
theorem qnb : ∀ (l : List Itm) (c : Nat) (x : Itm), l[c]? = some x → ones l (c + 1) = ones l c + if x.one then 1 else 0
 | [], c, x, h => by simp at h
 | y :: l, 0, x, h => by
  simp at h; subst h
  have : ones l 0 = 0 := by cases l <;> rfl
  simp [ones, this]
 | y :: l, c + 1, x, h => by
  have := qnb l c x (by simpa using h)
  rw [ones, ones, this]; omega
theorem Tryz.undR : Tryz.prog.underlying 220 = some (.slice (Tryz.prog.elem 220)) := by kernel_rfl
theorem Tryz.szR (W : World) : (sizeOf (Tryz.prog.elem 220)).run Tryz.prog W = .ok 2 W := by kernel_rfl
theorem q3d {g N cap m : Nat} (h : m ≤ cap) (W : World) : (Instr.slice 220 (.slice (some ⟨g, 0, none⟩) N cap) none (some (.int .i64 (m : Int))) none).run Tryz.prog W = .ok (.slice (some ⟨g, 0, none⟩) m cap) W := by
 rw [run_slice_h (ht := Tryz.undR) (h0 := by omega) (h2 := by omega), Tryz.szR]
 simp [Result.andThen, sliced, Addr.add]
structure BB (w W : World) (ws : List Nat) (vr : Value) (vs : List Value) (g n : Nat) (f : Nat → Nat) : Prop where
 rows : W.ownsRow w.heap.size 220 1 vr vs.length vs
 items : qog w W ws vs
 out : W.ownsRow w.heap.size 3 1 (.slice (some ⟨g, 0, none⟩) n n) n (fz f n)
 bel : Below w.heap.size w W
theorem BB.alloc {w W : World} {ws : List Nat} {vr : Value} {vs : List Value} {g n : Nat} {f : Nat → Nat} (h : BB w W ws vr vs g n f) (x : Obj) : BB w (W.alloc x) ws vr vs g n f :=
 ⟨h.rows.alloc x, fun i v hv => (h.items i v hv).alloc x, h.out.alloc x, h.bel.alloc h.bel.size x⟩
theorem BB.inc {w W : World} {ws : List Nat} {vr : Value} {vs : List Value} {g n : Nat} {f : Nat → Nat} (h : BB w W ws vr vs g n f) (s x : Nat) : BB w (W.setCell ⟨g, s, none⟩ (.int .i64 (x : Int))) ws vr vs g n (fun j => if j = s then x else f j) := by
 have hs := h.out.stored s (.int .i64 (x : Int))
 rw [qrr] at hs
 exact ⟨qej h.rows h.out (by decide) hs.2, fun i v hv => qej (h.items i v hv) h.out (by decide) hs.2, hs.1, h.bel.setCell (p := ⟨g, s, none⟩) (h.out.lt g rfl).1 _⟩
theorem BB.congr {w W : World} {ws : List Nat} {vr : Value} {vs : List Value} {g n : Nat} {f f' : Nat → Nat} (h : BB w W ws vr vs g n f) (e : ∀ j, j < n → f j = f' j) : BB w W ws vr vs g n f' := ⟨h.rows, h.items, by rw [← qc2 e]; exact h.out, h.bel⟩
theorem q0j (v : Value) (ws : List Nat) (most : Nat) (w : World) (hV : NR w v ws) (hl : ws.length ≤ 320) (h2 : 2 ≤ ws.length) (hm1 : 1 ≤ most) (hm : most ≤ 15) (hp : ws.length ≤ 2 ^ most) (hM : ∀ x ∈ ws, x ≤ 1000000) :
    Calls Tryz.prog 111 #[v, .int .i64 (most : Int)] w fun e w' => ∃ g, e = .returned (.slice (some ⟨g, 0, none⟩) ws.length ws.length) ∧ w'.ownsRow w.heap.size 3 1 (.slice (some ⟨g, 0, none⟩) ws.length ws.length) ws.length (fz (lenK ws most) ws.length) ∧ Below w.heap.size w w' := by
 obtain ⟨i0, hi, hz0, hz1, hz2⟩ := info_parts Tryz.infoI
 have hrow := qka hp hm1
 have HNV : Hid (∀ W, Below w.heap.size w W → NR W v ws) := fun W hb => hV.below hb
 obtain ⟨av, cv, rfl, _⟩ := hV
 obtain ⟨n, hn⟩ : ∃ n, n = ws.length := ⟨_, rfl⟩
 rw [← hn] at hl h2 hp hrow ⊢
 obtain ⟨w1, hmk, hown, hgr⟩ := run_makeSlice_full (P := Tryz.prog) (w := w) w.heap.size 39 3 i0 (.int .i64 0) 1 Tryz.underlying39 hi hz0 hz1 .i64 .i64 n (by omega) (by rw [hz2]; omega) (by unfold maxLen; omega) (Nat.le_refl _)
 have hcl : (madeCells (Value.int IntKind.i64 0).cells (n * 1)).toList = fz (fun _ => 0) n := by
  rw [Nat.mul_one]
  show (madeCells #[.int .i64 0] n).toList = _
  rw [toList_madeCells_one]
  unfold fz
  rw [List.map_const', List.length_range]; rfl
 rw [hcl] at hown
 have hB1 : Below w.heap.size w w1 := (Below.refl _ w).grown hgr (Nat.le_refl _) (fun k hk => by cases hk)
 have HRA : Hid (Calls _ _ _ _ _) := qyz _ ws most w1 (HNV.out w1 hB1) (by omega) (by omega) hm hM
 rw [← hn] at HRA
 have HN : Hid (n = ws.length) := hn
 clear hcl hgr HNV hn
 go_enter Tryz.func111, Tryz.ntmps111
 go_wp2_with fail
 refine (Hid.out HRA : Calls _ _ _ _ _).mono ?_
 rintro e w2 ⟨vr, vs, rfl, hvs, hR, hA, hb2⟩
 have HBB : Hid (BB w w2 ws vr vs w.heap.size n (fun _ => 0)) := ⟨by rw [hvs]; exact qdb hR hB1.size, fun i v hv => qdb (hA i v hv) hB1.size, qbp hown hb2, hB1.trans (hb2.mono hB1.size)⟩
 obtain ⟨ar, cr, rfl⟩ := qb3 hR
 clear HRA hown hB1 hR hA hb2 hmk
 obtain ⟨C, hC⟩ : ∃ C, C = 2 * n - 2 := ⟨_, rfl⟩
 have hCi : 2 * (n : Int) - 2 = (C : Int) := by omega
 have HST : Hid (∀ j, j < n → 0 + outK ws j most C = lenK ws most j) := fun j hj => by unfold lenK; rw [← HN.out, hC, Nat.zero_add]
 have hCr : C ≤ (rowK ws most).length := by omega
 clear hC hrow
 go_wp2
 go_loopw [7, 8] (fun q i W => ∃ (I c : Nat) (f : Nat → Nat), I ≤ most ∧ q = .int .i64 (c : Int) ∧ i = .int .i64 ((I : Int) - 1) ∧ c ≤ (rowK ws I).length ∧ (∀ j, j < n → f j + outK ws j I c = lenK ws most j) ∧ BB w W ws (.slice ar most cr) vs w.heap.size n f) (fun _ i _ => (intOf i + 1).toNat)
 case atStart => exact ⟨most, C, fun _ => 0, Nat.le_refl _, rfl, rfl, hCr, HST.out, HBB.out⟩
 case round =>
  clear HST HBB hCr hCi
  obtain ⟨I, c, f, hI, rfl, rfl, hc, hf, hb⟩ := hrel
  have hdone : (I = 0 ∨ c = 0) → fz f n = fz (lenK ws most) n := fun h => qc2 fun j hj => by
   have := hf j hj
   rcases h with rfl | rfl
   · simpa [outK] using this
   · rw [qm9] at this; simpa using this
  have HD : Hid _ := hdone
  have HF : Hid (∀ j, j < n → f j + outK ws j I c = lenK ws most j) := hf
  have HB : Hid (BB w wr ws (.slice ar most cr) vs w.heap.size n f) := hb
  clear hdone hf hb
  have hend : (I = 0 ∨ c = 0) → wr.ownsRow w.heap.size 3 1 (.slice (some ⟨w.heap.size, 0, none⟩) n n) n (fz (lenK ws most) n) := fun h => by rw [← HD.out h]; exact HB.out.out
  have HEND : Hid _ := hend
  clear hend HD
  by_cases hI0 : I = 0
  · subst hI0
    have HE : Hid _ := HEND.out (.inl rfl)
    clear HEND HF
    simp only [show ((0 : Nat) : Int) - 1 = -1 from rfl]
    go_wp2
    go_ret
    exact ⟨_, rfl, HE.out, HB.out.bel⟩
  · by_cases hc0 : c = 0
    · subst hc0
      have HE : Hid _ := HEND.out (.inr rfl)
      have hIi : (0 : Int) ≤ (I : Int) - 1 := by omega
      clear HEND HF
      go_wp2
      go_ret
      exact ⟨_, rfl, HE.out, HB.out.bel⟩
    · obtain ⟨J, rfl⟩ : ∃ J, I = J + 1 := ⟨I - 1, by omega⟩
      have hJi : ((J + 1 : Nat) : Int) - 1 = (J : Int) := by omega
      rw [hJi]
      have hJ0 : (0 : Int) ≤ (J : Int) := by omega
      have hJm : (J : Int) < (most : Int) := by omega
      have hci : (0 : Int) < (c : Int) := by omega
      obtain ⟨vi, hvi⟩ : ∃ vi, vs[J]? = some vi := ⟨_, List.getElem?_eq_getElem (by omega)⟩
      have hitem := HB.out.items J vi hvi
      have hrowc := HB.out.rows
      rw [hvs] at hrowc
      obtain ⟨gr, rfl⟩ : ∃ gr, ar = some ⟨gr, 0, none⟩ := by
       rcases hrowc.2 with ⟨e, h0⟩ | ⟨g, _, _, e, _⟩
       · omega
       · simp only [Value.slice.injEq] at e; exact ⟨g, e.1⟩
      have cJ := hrowc.cellAt J (by omega)
      rw [hvi] at cJ
      obtain ⟨gi, ci, rfl, hci2⟩ : ∃ gi ci, vi = .slice (some ⟨gi, 0, none⟩) (rowK ws (J + 1)).length ci ∧ (rowK ws (J + 1)).length ≤ ci := by
       rcases hitem.2 with ⟨_, h0⟩ | ⟨g, cap, _, e, _, _, h1, _⟩
       · omega
       · exact ⟨g, cap, e, h1⟩
      have hcut := fun W => q3d (g := gi) (N := (rowK ws (J + 1)).length) (cap := ci) (m := c) (by omega) W
      have hcb : c ≤ 640 := by
       have h1 := HN.out
       have h2 := qhm ws (by omega) (J + 1)
       omega
      have HOP : Hid (∀ t, ones (rowK ws (J + 1)) t ≤ t) := fun t => qo8 _ t
      have HON : Hid (∀ t, t ≤ c → ones (rowK ws (J + 1)) t ≤ n) := fun t ht => by
       have := (qce ws (prs (rowK ws J)) t (by rw [← qdc, qc9]; omega)).1
       rw [qc9] at this
       rw [HN.out]; exact this
      have HLK : Hid (∀ j, j < n → f j ≤ 15) := fun j hj => by
       have h1 := HF.out j hj
       have h2 := qpg ws most j
       omega
      clear hitem hrowc
      go_wp2
      go_loopw [9, 40] (fun s i W => ∃ t : Nat, t ≤ c ∧ i = .int .i64 (t : Int) ∧ s = .int .i64 (ones (rowK ws (J + 1)) t : Int) ∧ BB w W ws (.slice (some ⟨gr, 0, none⟩) most cr) vs w.heap.size n (fun j => f j + if j < ones (rowK ws (J + 1)) t then 1 else 0)) (fun _ i _ => c - (intOf i).toNat)
      case atStart =>
       have h0 : ones (rowK ws (J + 1)) 0 = 0 := by cases rowK ws (J + 1) <;> rfl
       exact ⟨0, by omega, rfl, by rw [h0]; rfl, HB.out.congr fun j _ => by rw [h0]; simp⟩
      case round =>
       obtain ⟨t, ht, rfl, rfl, hb⟩ := hrel
       by_cases htc : t < c
       · obtain ⟨x, hx⟩ : ∃ x, (rowK ws (J + 1))[t]? = some x := ⟨_, List.getElem?_eq_getElem (by omega)⟩
         have hit := hb.items J _ hvi
         have hil := qwe (rowK ws (J + 1))
         have cx0 := hit.cellAt (t * 2) (by omega)
         have cx1 := hit.cellAt (t * 2 + 1) (by omega)
         rw [(qrj _ t x hx).1] at cx0
         rw [(qrj _ t x hx).2] at cx1
         have HNX : Hid (_ = _) := qnb _ t x hx
         have hS := HON.out (t + 1) (by omega)
         rw [HNX.out] at hS
         have hti : (t : Int) < (c : Int) := by omega
         have ht0 : (0 : Int) ≤ (t : Int) := by omega
         have HBA : Hid (BB w _ ws _ vs w.heap.size n _) := hb.alloc (.cells #[.int .i64 (x.wt : Int), .bool x.one] 222)
         clear hit hil hx hb
         obtain ⟨xw, xo⟩ := x
         simp only at cx0 cx1 HNX hS HBA
         generalize hSS : ones (rowK ws (J + 1)) t = S at *
         clear hSS
         cases xo
         · simp only [Bool.false_eq_true, if_false, Nat.add_zero] at HNX hS
           go_wp2
           go_roundw
           case rel => exact ⟨t + 1, by omega, by go_num, by rw [HNX.out], HBA.out.congr fun j _ => by rw [HNX.out]⟩
           case measure => simp [intOf]; omega
         · simp only [if_true] at HNX hS
           have hfS := HLK.out S (by omega)
           have co := HBA.out.out.cellAt S (by omega)
           have fo := HBA.out.out.frozenAt S
           rw [qnq _ _ _ (by omega)] at co
           simp only [Nat.lt_irrefl, if_false, Nat.add_zero] at co
           have HBI : Hid (BB w _ ws _ vs w.heap.size n _) := HBA.out.inc S (f S + 1)
           have hSi : (S : Int) < (n : Int) := by omega
           have hS0 : (0 : Int) ≤ (S : Int) := by omega
           have hfi : ((f S + 1 : Nat) : Int) = (f S : Int) + 1 := by omega
           rw [hfi] at HBI
           have HCG : Hid (∀ j, j < n → (if j = S then f S + 1 else f j + if j < S then 1 else 0) = f j + if j < S + 1 then 1 else 0) := fun j _ => by
            by_cases e : j = S
            · subst e; simp
            · rw [if_neg e]
              by_cases h : j < S
              · rw [if_pos h, if_pos (by omega)]
              · rw [if_neg h, if_neg (by omega)]
           clear HBA hfi
           generalize f S = y at *
           go_wp2
           go_roundw
           case rel => exact ⟨t + 1, by omega, by go_num, by rw [HNX.out]; go_num, HBI.out.congr fun j hj => by rw [HNX.out]; exact HCG.out j hj⟩
           case measure => simp [intOf]; omega
       · obtain rfl : t = c := by omega
         have hone := HOP.out t
         have HNC : Hid (qcw ws J t = 2 * (t - ones (rowK ws (J + 1)) t)) := rfl
         have HNL : Hid (qcw ws J t ≤ (rowK ws J).length) := qd1 hc
         have HFN : Hid (∀ j, j < n → (f j + if j < ones (rowK ws (J + 1)) t then 1 else 0) + outK ws j J (qcw ws J t) = lenK ws most j) := fun j hj => by
          have := HF.out j hj
          rw [outK] at this
          omega
         have HBF : Hid (BB w wr ws _ vs w.heap.size n _) := hb
         have hnc : 2 * ((t : Int) - (ones (rowK ws (J + 1)) t : Int)) = (qcw ws J t : Int) := by rw [HNC.out]; omega
         have hlen := HNL.out
         have hlr := qhm ws (by have := HN.out; omega) J
         clear hb HNC HF HB HEND HON HOP
         generalize qcw ws J t = Z at *
         generalize ones (rowK ws (J + 1)) t = S at *
         have hSt : (0 : Int) ≤ (t : Int) - (S : Int) := by omega
         have hZb : Z ≤ 640 := by have := HN.out; omega
         go_wp2
         go_roundw
         case rel => exact ⟨J, Z, _, by omega, rfl, rfl, HNL.out, HFN.out, HBF.out⟩
         case measure => simp [intOf]
def cmpZ (a b : Int) : Int := if a < b then -1 else if b < a then 1 else 0
theorem qnl (a : Int) (w : World) : Calls Tryz.prog 129 #[.int .i64 a] w fun e w' => e = .returned (.bool false) ∧ w' = w := by
 go_enter Tryz.func129, Tryz.ntmps129
 have h : (a != a) = false := by simp
 go_wp2
 go_ret
 exact ⟨rfl, rfl⟩
theorem qpr (a b : Int) (w : World) : Calls Tryz.prog 122 #[.int .i64 a, .int .i64 b] w fun e w' => e = .returned (.int .i64 (cmpZ a b)) ∧ w' = w := by
 go_enter Tryz.func122, Tryz.ntmps122
 go_wp2_with fail
 refine (qnl a _).mono ?_
 rintro e w1 ⟨rfl, h1⟩
 obtain rfl : w = w1 := h1.symm
 go_wp2_with fail
 refine (qnl b _).mono ?_
 rintro e w2 ⟨rfl, h2⟩
 obtain rfl : w = w2 := h2.symm
 clear h1 h2
 by_cases hab : a < b
 · have HE : Hid (cmpZ a b = -1) := by unfold Hid cmpZ; rw [if_pos hab]
   go_wp2
   go_ret
   exact ⟨by rw [HE.out]; rfl, rfl⟩
 · by_cases hba : b < a
   · have HE : Hid (cmpZ a b = 1) := by unfold Hid cmpZ; rw [if_neg hab, if_pos hba]
     go_wp2
     go_ret
     exact ⟨by rw [HE.out]; rfl, rfl⟩
   · have HE : Hid (cmpZ a b = 0) := by unfold Hid cmpZ; rw [if_neg hab, if_neg hba]
     go_wp2
     go_ret
     exact ⟨by rw [HE.out]; rfl, rfl⟩
def chkC (zs : List Int) (most : Int) : Nat := if 320 < zs.length then 2 else if most < 1 ∨ 15 < most then 1 else if ∃ z ∈ zs, z < 0 ∨ 1000000 < z then 1 else 0
def inM (zs : List Int) : Prop := ∀ i, i < zs.length → 0 ≤ zs.getD i 0 ∧ zs.getD i 0 ≤ 1000000
theorem notM {zs : List Int} (h : ¬ inM zs) : ∃ k, k < zs.length ∧ (zs.getD k 0 < 0 ∨ 1000000 < zs.getD k 0) ∧ ∀ i, i < k → 0 ≤ zs.getD i 0 ∧ zs.getD i 0 ≤ 1000000 := by
 have key : ∀ n, n ≤ zs.length → (∀ i, i < n → 0 ≤ zs.getD i 0 ∧ zs.getD i 0 ≤ 1000000) ∨ ∃ k, k < n ∧ (zs.getD k 0 < 0 ∨ 1000000 < zs.getD k 0) ∧ ∀ i, i < k → 0 ≤ zs.getD i 0 ∧ zs.getD i 0 ≤ 1000000 := by
  intro n
  induction n with
  | zero => intro _; exact .inl fun i hi => by omega
  | succ n ih =>
   intro hn
   rcases ih (by omega) with h1 | ⟨k, hk, h2, h3⟩
   · by_cases h2 : 0 ≤ zs.getD n 0 ∧ zs.getD n 0 ≤ 1000000
     · exact .inl fun i hi => by
         by_cases e : i = n
         · subst e; exact h2
         · exact h1 i (by omega)
     · exact .inr ⟨n, by omega, by omega, h1⟩
   · exact .inr ⟨k, by omega, h2, h3⟩
 rcases key zs.length (Nat.le_refl _) with h1 | ⟨k, h2⟩
 · exact absurd h1 h
 · exact ⟨k, h2⟩
theorem q22 {zs : List Int} {k : Nat} (hk : k < zs.length) : zs.getD k 0 ∈ zs := by
 rw [List.getD_eq_getElem?_getD, List.getElem?_eq_getElem hk]; exact List.getElem_mem hk
theorem inM.all {zs : List Int} (h : inM zs) : ¬ ∃ z ∈ zs, z < 0 ∨ 1000000 < z := by
 rintro ⟨z, hz, hb⟩
 obtain ⟨i, hi, rfl⟩ := List.getElem_of_mem hz
 have := h i hi
 rw [List.getD_eq_getElem?_getD, List.getElem?_eq_getElem hi] at this
 simp at this
 omega
theorem qz7 {zs : List Int} {m : Int} (h : 320 < zs.length) : chkC zs m = 2 := by unfold chkC; rw [if_pos h]
theorem qn1 {zs : List Int} {m : Int} (h : ¬ 320 < zs.length) (hm : m < 1 ∨ 15 < m) : chkC zs m = 1 := by unfold chkC; rw [if_neg h, if_pos hm]
theorem qz8 {zs : List Int} {m : Int} (h : ¬ 320 < zs.length) (hm : ¬ (m < 1 ∨ 15 < m)) {k : Nat} (hk : k < zs.length) (hb : zs.getD k 0 < 0 ∨ 1000000 < zs.getD k 0) : chkC zs m = 1 := by
 unfold chkC; rw [if_neg h, if_neg hm, if_pos ⟨_, q22 hk, hb⟩]
theorem qmb {zs : List Int} {m : Int} (h : ¬ 320 < zs.length) (hm : ¬ (m < 1 ∨ 15 < m)) (hi : inM zs) : chkC zs m = 0 := by
 unfold chkC; rw [if_neg h, if_neg hm, if_neg hi.all]
theorem qz9 (v : Value) (zs : List Int) (m : Int) (w : World) (hR : IQ w v zs) (hl : zs.length ≤ 2 ^ 40) :
    Calls Tryz.prog 109 #[v, .int .i64 m] w fun e w' => e = .returned (.int .i64 (chkC zs m : Int)) ∧ w' = w := by
 obtain ⟨g, o, cap, rfl, hg, hc⟩ := hR
 have HC : Hid (∀ i, i < zs.length → w.cell? ⟨g, o + i, none⟩ = some (.int .i64 (zs.getD i 0))) := hc
 clear hc
 by_cases hb : 320 < zs.length
 · have hbi : (320 : Int) < (zs.length : Int) := by omega
   have HE : Hid (chkC zs m = 2) := qz7 hb
   go_enter Tryz.func109, Tryz.ntmps109
   go_wp2
   go_ret
   exact ⟨by rw [HE.out]; rfl, rfl⟩
 have hbi : ¬ (320 : Int) < (zs.length : Int) := by omega
 by_cases hm1 : m < 1
 · have HE : Hid (chkC zs m = 1) := qn1 hb (.inl hm1)
   go_enter Tryz.func109, Tryz.ntmps109
   go_wp2
   go_ret
   exact ⟨by rw [HE.out]; rfl, rfl⟩
 by_cases hm2 : 15 < m
 · have HE : Hid (chkC zs m = 1) := qn1 hb (.inr hm2)
   go_enter Tryz.func109, Tryz.ntmps109
   go_wp2
   go_ret
   exact ⟨by rw [HE.out]; rfl, rfl⟩
 by_cases hin : inM zs
 · have HIN : Hid (inM zs) := hin
   have HE : Hid (chkC zs m = 0) := qmb hb (by omega) hin
   clear hin
   go_enter Tryz.func109, Tryz.ntmps109
   go_wp2
   go_loop [18] (fun i => ∃ k : Nat, k ≤ zs.length ∧ i = .int .i64 (k : Int)) (fun i => zs.length - (intOf i).toNat)
   case atStart => exact ⟨0, by omega, rfl⟩
   case round =>
    obtain ⟨k, hk, rfl⟩ := hrel
    by_cases hlt : k < zs.length
    · have hck := HC.out k hlt
      obtain ⟨z0, z15⟩ := HIN.out k hlt
      generalize zs.getD k 0 = z at *
      have hki : (k : Int) < (zs.length : Int) := by omega
      have hki0 : (0 : Int) ≤ (k : Int) := by omega
      go_wp2
      go_round
      case rel => exact ⟨k + 1, by omega, by go_num⟩
      case measure => simp [intOf]; omega
    · obtain rfl : k = zs.length := by omega
      go_wp2
      go_ret
      exact ⟨by rw [HE.out]; rfl, rfl⟩
 · obtain ⟨K, hK, hbad, hgood⟩ := notM hin
   have HE : Hid (chkC zs m = 1) := qz8 hb (by omega) hK hbad
   have HG : Hid (∀ i, i < K → 0 ≤ zs.getD i 0 ∧ zs.getD i 0 ≤ 1000000) := hgood
   clear hin hgood
   go_enter Tryz.func109, Tryz.ntmps109
   go_wp2
   go_loop [18] (fun i => ∃ k : Nat, k ≤ K ∧ i = .int .i64 (k : Int)) (fun i => zs.length - (intOf i).toNat)
   case atStart => exact ⟨0, by omega, rfl⟩
   case round =>
    obtain ⟨k, hk, rfl⟩ := hrel
    have hck := HC.out k (by omega)
    have hki : (k : Int) < (zs.length : Int) := by omega
    have hki0 : (0 : Int) ≤ (k : Int) := by omega
    by_cases hlt : k < K
    · obtain ⟨z0, z15⟩ := HG.out k hlt
      clear hbad
      generalize zs.getD k 0 = z at *
      go_wp2
      go_round
      case rel => exact ⟨k + 1, by omega, by go_num⟩
      case measure => simp [intOf]; omega
    · obtain rfl : k = K := by omega
      generalize zs.getD k 0 = z at *
      rcases hbad with hbad | hbad
      · go_wp2
        go_ret
        exact ⟨by rw [HE.out]; rfl, rfl⟩
      · have hz0 : ¬ z < 0 := by omega
        go_wp2
        go_ret
        exact ⟨by rw [HE.out]; rfl, rfl⟩
end Go.Proofs.YthkppipdflmekaaGreat
