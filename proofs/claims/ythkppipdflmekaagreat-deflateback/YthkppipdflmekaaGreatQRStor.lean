/- Contract of the document's stored. -/
import Derived.Test.YthkppipdflmekaaGreatQRefX
import Derived.Test.YthkppipdflmekaaGreatQRSiz
import Derived.Test.YthkppipdflmekaaGreatQRefQ
set_option maxRecDepth 100000
set_option maxHeartbeats 4000000
namespace Go.Proofs.YthkppipdflmekaaGreat
open Go.RowKit
set_option linter.unusedVariables false
def sn (g N c p o m e : Nat) : Value := .agg #[.slice (some ⟨g, 0, none⟩) N c, .int .i64 (p : Int), .int .i64 (o : Int), .int .i64 (m : Int), .int .i64 (e : Int)]
theorem bel2 (w : World) (x y : Obj) : Below w.heap.size w ((w.alloc x).alloc y) := ((Below.refl _ w).alloc (Nat.le_refl _) _).alloc (by rw [World.size_alloc]; omega) _
theorem qbb (g N c p o m e : Nat) (is : Bool) (er : Nat) (w : World) :
    Calls Tryz.prog 42 #[sn g N c p o m e, .bool is, .int .i64 (er : Int)] w fun x w' => x = .returned (sn g N c p o m (if is = true ∧ e = 0 then er else e)) ∧ Below w.heap.size w w' := by
 unfold sn
 have HB : Hid (∀ x y, Below w.heap.size w ((w.alloc x).alloc y)) := bel2 w
 go_enter Tryz.func42, Tryz.ntmps42
 by_cases he : e = 0
 · subst he
   cases is
   · rw [if_neg (by simp)]
     go_wp2
     exact bodyPost_ret (v := .agg #[.slice (some ⟨g, 0, none⟩) N c, .int .i64 (p : Int), .int .i64 (o : Int), .int .i64 (m : Int), .int .i64 0]) (by simp [results, Tryz.results42, go_sem]) rfl ⟨rfl, HB.out _ _⟩
   · rw [if_pos ⟨rfl, rfl⟩]
     go_wp2
     exact bodyPost_ret (v := .agg #[.slice (some ⟨g, 0, none⟩) N c, .int .i64 (p : Int), .int .i64 (o : Int), .int .i64 (m : Int), .int .i64 (er : Int)]) (by simp [results, Tryz.results42, go_sem]) rfl ⟨rfl, HB.out _ _⟩
 · have hei : ((e : Int) == 0) = false := by simp; omega
   rw [if_neg (fun h => he h.2)]
   cases is
   · go_wp2
     exact bodyPost_ret (v := .agg #[.slice (some ⟨g, 0, none⟩) N c, .int .i64 (p : Int), .int .i64 (o : Int), .int .i64 (m : Int), .int .i64 (e : Int)]) (by simp [results, Tryz.results42, go_sem]) rfl ⟨rfl, HB.out _ _⟩
   · go_wp2
     exact bodyPost_ret (v := .agg #[.slice (some ⟨g, 0, none⟩) N c, .int .i64 (p : Int), .int .i64 (o : Int), .int .i64 (m : Int), .int .i64 (e : Int)]) (by simp [results, Tryz.results42, go_sem]) rfl ⟨rfl, HB.out _ _⟩
theorem qho (g N c p o m e n : Nat) (w : World) (he : e ≠ 0) :
    Calls Tryz.prog 37 #[sn g N c p o m e, .int .i64 (n : Int)] w fun x w' => x = .returned (.tuple #[sn g N c p o m e, .int .i64 0]) ∧ Below w.heap.size w w' := by
 unfold sn
 have HB : Hid (∀ x y, Below w.heap.size w ((w.alloc x).alloc y)) := bel2 w
 have hei : ((e : Int) == 0) = false := by simp; omega
 have hej : ((e : Int) != 0) = true := by simp; omega
 go_enter Tryz.func37, Tryz.ntmps37
 go_wp2
 exact bodyPost_ret (v := .tuple #[.agg #[.slice (some ⟨g, 0, none⟩) N c, .int .i64 (p : Int), .int .i64 (o : Int), .int .i64 (m : Int), .int .i64 (e : Int)], .int .i64 0]) (by simp [results, Tryz.results37, go_sem]) rfl ⟨rfl, HB.out _ _⟩
theorem qij (g N c p o m n : Nat) (w : World) (h : N < p + n) (hN : N ≤ 1000000) (hp : p ≤ 2000000) (hn : n ≤ 32) :
    Calls Tryz.prog 37 #[sn g N c p o m 0, .int .i64 (n : Int)] w fun x w' => x = .returned (.tuple #[sn g N c p o m 6, .int .i64 0]) ∧ Below w.heap.size w w' := by
 unfold sn
 have HB : Hid (∀ x y, Below w.heap.size w ((w.alloc x).alloc y)) := bel2 w
 have hi : (N : Int) < (p : Int) + (n : Int) := by omega
 go_enter Tryz.func37, Tryz.ntmps37
 go_wp2
 exact bodyPost_ret (v := .tuple #[.agg #[.slice (some ⟨g, 0, none⟩) N c, .int .i64 (p : Int), .int .i64 (o : Int), .int .i64 (m : Int), .int .i64 6], .int .i64 0]) (by simp [results, Tryz.results37, go_sem]) rfl ⟨rfl, HB.out _ _⟩
theorem OB.alloc {w : World} {B : Nat} {v : Value} {L : List Bool} (h : OB w B v L) (x : Obj) : OB (w.alloc x) B v L := h.below ((Below.refl _ w).alloc (Nat.le_refl _) x)
theorem qgl (g c p o m n B : Nat) (L : List Bool) (w : World) (hO : OB w B (.slice (some ⟨g, 0, none⟩) L.length c) L) (h : p + n ≤ L.length) (hN : L.length ≤ 1000000) (hn : n ≤ 32) :
    Calls Tryz.prog 37 #[sn g L.length c p o m 0, .int .i64 (n : Int)] w fun x w' => x = .returned (.tuple #[sn g L.length c (p + n) o m 0, .int .i64 (qal (fun i => L.getD (p + i) false) n : Int)]) ∧ Below w.heap.size w w' := by
 unfold sn
 have HB : Hid (∀ x y, Below w.heap.size w ((w.alloc x).alloc y)) := bel2 w
 have hi : ¬ (L.length : Int) < (p : Int) + (n : Int) := by omega
 have HNM : Hid (∀ x y, Calls Tryz.prog 43 #[.slice (some ⟨g, 0, none⟩) L.length c, .int .i64 (p : Int), .int .i64 (n : Int), .bool false] ((w.alloc x).alloc y) fun e w' => e = .returned (.int .u32 (qal (fun i => L.getD (p + i) false) n : Int)) ∧ w' = ((w.alloc x).alloc y)) := fun x y => qkl _ L B p n _ ((hO.alloc x).alloc y) hN (by omega) hn
 have ht : qal (fun i => L.getD (p + i) false) n < 4294967296 := qeu _ n hn
 generalize qal (fun i => L.getD (p + i) false) n = T at *
 clear hO
 go_enter Tryz.func37, Tryz.ntmps37
 go_wp2_with fail
 refine (HNM.out _ _).mono ?_
 rintro e w1 ⟨rfl, rfl⟩
 go_wp2
 exact bodyPost_ret (v := .tuple #[.agg #[.slice (some ⟨g, 0, none⟩) L.length c, .int .i64 ((p : Int) + (n : Int)), .int .i64 (o : Int), .int .i64 (m : Int), .int .i64 0], .int .i64 (T : Int)]) (by simp [results, Tryz.results37, go_sem]) rfl ⟨rfl, HB.out _ _⟩
theorem qyv (g N c p o m e : Nat) (vi vc : Value) (w : World) (he : e ≠ 0) :
    Calls Tryz.prog 71 #[sn g N c p o m e, vi, vc] w fun x w' => x = .returned (.tuple #[sn g N c p o m e, .int .i64 0]) ∧ Below w.heap.size w w' := by
 unfold sn
 have HB : Hid (∀ x y, Below w.heap.size w ((w.alloc x).alloc y)) := bel2 w
 have hej : ((e : Int) != 0) = true := by simp; omega
 go_enter Tryz.func71, Tryz.ntmps71
 go_wp2
 exact bodyPost_ret (v := .tuple #[.agg #[.slice (some ⟨g, 0, none⟩) N c, .int .i64 (p : Int), .int .i64 (o : Int), .int .i64 (m : Int), .int .i64 (e : Int)], .int .i64 0]) (by simp [results, Tryz.results71, go_sem]) rfl ⟨rfl, HB.out _ _⟩
theorem UR.alloc {w : World} {v : Value} {n : Nat} {f : Nat → Nat} (h : UR w v n f) (x : Obj) : UR (w.alloc x) v n f := h.below ((Below.refl _ w).alloc (Nat.le_refl _) x)
theorem qqw (g c p o m B : Nat) (L : List Bool) (vi vc : Value) (ns : List Nat) (w : World) (hO : OB w B (.slice (some ⟨g, 0, none⟩) L.length c) L) (hI : IQ w vi (zz ns)) (hU : UR w vc (zz ns).length (cdOf ns)) (hf : fitE ns = true) (hN : L.length ≤ 1000000) (hp : p ≤ L.length) :
    Calls Tryz.prog 71 #[sn g L.length c p o m 0, vi, vc] w fun x w' => ((∃ t q, nxF ns (fun i => L.getD i false) L.length p = .ok (t, q) ∧ x = .returned (.tuple #[sn g L.length c q o m 0, .int .i64 (t : Int)])) ∨ (∃ er q, nxF ns (fun i => L.getD i false) L.length p = .error er ∧ er ≠ 0 ∧ q ≤ L.length + 16 ∧ x = .returned (.tuple #[sn g L.length c q o m er, .int .i64 0]))) ∧ Below w.heap.size w w' := by
 unfold sn
 obtain ⟨he, h15, h320, hfit⟩ := qbx hf
 have HB : Hid (∀ x y, Below w.heap.size w ((w.alloc x).alloc y)) := bel2 w
 obtain ⟨j, y, er, hR, hX⟩ := qln ns h15 (fun i => L.getD i false) L.length p hp
 have hj : j < 15 := by
  have := hR.1.1.lt h15
  omega
 have hR' : qfo (toN (zz ns)) (fun i => L.getD (p + i) false) (L.length - p) j y er := by rw [qhx]; exact hR
 have HNX : Hid (∀ x' y', Calls Tryz.prog 93 #[vi, vc, .slice (some ⟨g, 0, none⟩) L.length c, .int .i64 (p : Int)] ((w.alloc x').alloc y') fun e w' => e = .returned (.tuple #[.int .i64 y, .int .i64 ((j + 1 : Nat) : Int), .int .i64 er]) ∧ w' = ((w.alloc x').alloc y')) := fun x' y' => qta vi vc _ (zz ns) L B p j y er _ (hI.below (bel2 w x' y')) (by rw [qhx]; exact (hU.alloc x').alloc y') ((hO.alloc x').alloc y') he hN hp hj hR'
 unfold nxOf at hX
 clear hI hU hO
 rcases qe2 hR with ⟨rfl, hjl, t, rfl, htl⟩ | ⟨rfl, hk⟩
 · rw [if_pos rfl, Int.toNat_natCast] at hX
   have HX : Hid (_ = _) := hX
   clear hX hR hR'
   go_enter Tryz.func71, Tryz.ntmps71
   go_wp2_with fail
   refine (HNX.out _ _).mono ?_
   rintro e w1 ⟨rfl, rfl⟩
   go_wp2
   exact bodyPost_ret (v := .tuple #[.agg #[.slice (some ⟨g, 0, none⟩) L.length c, .int .i64 ((p : Int) + ((j : Int) + 1)), .int .i64 (o : Int), .int .i64 (m : Int), .int .i64 0], .int .i64 (t : Int)]) (by simp [results, Tryz.results71, go_sem]) rfl ⟨.inl ⟨t, _, HX.out, by rw [show ((p + j + 1 : Nat) : Int) = (p : Int) + ((j : Int) + 1) by omega]; rfl⟩, HB.out _ _⟩
 · obtain ⟨er', rfl, her⟩ : ∃ e' : Nat, er = (e' : Int) ∧ (e' = 3 ∨ e' = 6) := by
     rcases hk with rfl | rfl
     · exact ⟨3, rfl, .inl rfl⟩
     · exact ⟨6, rfl, .inr rfl⟩
   rw [if_neg (by omega), Int.toNat_natCast] at hX
   have HX : Hid (_ = _) := hX
   have hjl := hR.1.2
   clear hX hR hR' hk
   go_enter Tryz.func71, Tryz.ntmps71
   go_wp2_with fail
   refine (HNX.out _ _).mono ?_
   rintro e w1 ⟨rfl, rfl⟩
   go_wp2
   exact bodyPost_ret (v := .tuple #[.agg #[.slice (some ⟨g, 0, none⟩) L.length c, .int .i64 ((p : Int) + ((j : Int) + 1)), .int .i64 (o : Int), .int .i64 (m : Int), .int .i64 (er' : Int)], .int .i64 0]) (by simp [results, Tryz.results71, go_sem]) rfl ⟨.inr ⟨er', p + j + 1, HX.out, by omega, by omega, by rw [show ((p + j + 1 : Nat) : Int) = (p : Int) + ((j : Int) + 1) by omega]⟩, HB.out _ _⟩
def snC (g N c p o m e : Nat) : Array Value := #[.slice (some ⟨g, 0, none⟩) N c, .int .i64 (p : Int), .int .i64 (o : Int), .int .i64 (m : Int), .int .i64 (e : Int)]
def sn0 : Array Value := #[.slice none 0 0, .int .i64 0, .int .i64 0, .int .i64 0, .int .i64 0]
structure SB (w W : World) (B g c : Nat) (L : List Bool) (bx rx p o m e : Nat) : Prop where
 ob : OB W B (.slice (some ⟨g, 0, none⟩) L.length c) L
 bxh : W.heap[bx]? = some (.cells (snC g L.length c p o m e) 99 (0, 0))
 rxh : W.heap[rx]? = some (.cells sn0 99 (0, 0))
 bel : Below w.heap.size w W
 lo : w.heap.size ≤ bx ∧ w.heap.size ≤ rx ∧ bx ≠ rx
theorem qay {w : World} {b : Nat} {o : Obj} (h : w.heap[b]? = some o) : b < w.heap.size := (Array.getElem?_eq_some_iff.1 h).1
theorem SB.call {w W W' : World} {B g c : Nat} {L : List Bool} {bx rx p o m e : Nat} (h : SB w W B g c L bx rx p o m e) (hb : Below W.heap.size W W') : SB w W' B g c L bx rx p o m e :=
 ⟨h.ob.below hb, (hb.block _ (qay h.bxh)).trans h.bxh, (hb.block _ (qay h.rxh)).trans h.rxh, h.bel.trans (hb.mono h.bel.size), h.lo⟩
theorem qaa {w : World} {b : Nat} {v0 v1 v2 v3 v4 : Value} {ty : TypeId} (h : w.heap[b]? = some (.cells #[v0, v1, v2, v3, v4] ty (0, 0))) : (w.cell? ⟨b, 0, none⟩ = some v0 ∧ w.cell? ⟨b, 1, none⟩ = some v1 ∧ w.cell? ⟨b, 2, none⟩ = some v2 ∧ w.cell? ⟨b, 3, none⟩ = some v3 ∧ w.cell? ⟨b, 4, none⟩ = some v4) ∧ (w.frozen? ⟨b, 0, none⟩ = false ∧ w.frozen? ⟨b, 1, none⟩ = false ∧ w.frozen? ⟨b, 2, none⟩ = false ∧ w.frozen? ⟨b, 3, none⟩ = false ∧ w.frozen? ⟨b, 4, none⟩ = false) := by
 refine ⟨⟨?_, ?_, ?_, ?_, ?_⟩, frozen_of_row _ _ _ _ _ h, frozen_of_row _ _ _ _ _ h, frozen_of_row _ _ _ _ _ h, frozen_of_row _ _ _ _ _ h, frozen_of_row _ _ _ _ _ h⟩ <;> (rw [cell_of_row _ _ _ _ _ _ h]; rfl)
def put5 (w : World) (b : Nat) (v0 v1 v2 v3 v4 : Value) : World := ((((w.setCell ⟨b, 0, none⟩ v0).setCell ⟨b, 1, none⟩ v1).setCell ⟨b, 2, none⟩ v2).setCell ⟨b, 3, none⟩ v3).setCell ⟨b, 4, none⟩ v4
theorem qim {w : World} {b : Nat} {x0 x1 x2 x3 x4 : Value} {ty : TypeId} (h : w.heap[b]? = some (.cells #[x0, x1, x2, x3, x4] ty (0, 0))) (v0 v1 v2 v3 v4 : Value) : (put5 w b v0 v1 v2 v3 v4).heap[b]? = some (.cells #[v0, v1, v2, v3, v4] ty (0, 0)) := by
 unfold put5
 rw [heap_setCell_same _ _ _ _ _ _ (heap_setCell_same _ _ _ _ _ _ (heap_setCell_same _ _ _ _ _ _ (heap_setCell_same _ _ _ _ _ _ (heap_setCell_same _ _ _ _ _ _ h))))]; rfl
theorem qar (w : World) (b : Nat) (v0 v1 v2 v3 v4 : Value) : w.grownBy (put5 w b v0 v1 v2 v3 v4) (some b) := gset (gset (gset (gset (gset (qcj w _) 0 v0) 1 v1) 2 v2) 3 v3) 4 v4
theorem q2o {W : World} {B g c b : Nat} {L : List Bool} {cs : Array Value} (h : OB W B (.slice (some ⟨g, 0, none⟩) L.length c) L) (hb : W.heap[b]? = some (.cells cs 99 (0, 0))) : g ≠ b := by
 obtain ⟨g', c', e, ho⟩ := h
 rintro rfl
 exact qcd ho hb (by decide) rfl
theorem SB.put {w W : World} {B g c : Nat} {L : List Bool} {bx rx p o m e : Nat} (h : SB w W B g c L bx rx p o m e) (p' o' m' e' : Nat) : SB w (put5 W bx (.slice (some ⟨g, 0, none⟩) L.length c) (.int .i64 (p' : Int)) (.int .i64 (o' : Int)) (.int .i64 (m' : Int)) (.int .i64 (e' : Int))) B g c L bx rx p' o' m' e' := by
 have hg := qar W bx (.slice (some ⟨g, 0, none⟩) L.length c) (.int .i64 (p' : Int)) (.int .i64 (o' : Int)) (.int .i64 (m' : Int)) (.int .i64 (e' : Int))
 exact ⟨h.ob.kept hg (fun e => q2o h.ob h.bxh (Option.some.inj e)), qim h.bxh _ _ _ _ _, (hg.block _ (qay h.rxh) (fun e => h.lo.2.2 (Option.some.inj e).symm)).trans h.rxh, h.bel.grown hg h.bel.size (fun k hk => by cases hk; exact h.lo.1), h.lo⟩
theorem SB.set {w W : World} {B g c : Nat} {L : List Bool} {bx rx p o m e : Nat} (h : SB w W B g c L bx rx p o m e) (i : Nat) (v : Value) (p' o' m' e' : Nat) (hv : (snC g L.length c p o m e).setIfInBounds i v = snC g L.length c p' o' m' e') : SB w (W.setCell ⟨bx, i, none⟩ v) B g c L bx rx p' o' m' e' := by
 have hg : W.grownBy (W.setCell ⟨bx, i, none⟩ v) (some bx) := gset (qcj W _) i v
 exact ⟨h.ob.kept hg (fun e => q2o h.ob h.bxh (Option.some.inj e)), by rw [heap_setCell_same _ _ _ _ _ _ h.bxh, hv], (hg.block _ (qay h.rxh) (fun e => h.lo.2.2 (Option.some.inj e).symm)).trans h.rxh, h.bel.grown hg h.bel.size (fun k hk => by cases hk; exact h.lo.1), h.lo⟩
theorem SB.done {w W : World} {B g c : Nat} {L : List Bool} {bx rx p o m e : Nat} (h : SB w W B g c L bx rx p o m e) (v0 v1 v2 v3 v4 : Value) : (put5 W rx v0 v1 v2 v3 v4).heap[rx]? = some (.cells #[v0, v1, v2, v3, v4] 99 (0, 0)) ∧ Below w.heap.size w (put5 W rx v0 v1 v2 v3 v4) :=
 ⟨qim h.rxh _ _ _ _ _, h.bel.grown (qar W rx _ _ _ _ _) h.bel.size (fun k hk => by cases hk; exact h.lo.2.1)⟩
theorem SB.start {w : World} {B g c : Nat} {L : List Bool} (h : OB w B (.slice (some ⟨g, 0, none⟩) L.length c) L) (p o m e : Nat) : SB w ((w.alloc (.cells (snC g L.length c p o m e) 99)).alloc (.cells sn0 99)) B g c L w.heap.size (w.heap.size + 1) p o m e := by
 refine ⟨(h.alloc _).alloc _, ?_, ?_, bel2 w _ _, ⟨Nat.le_refl _, by omega, by omega⟩⟩
 · rw [heap_alloc_old _ _ (by rw [World.size_alloc]; omega)]; exact heap_alloc_new w _
 · have := heap_alloc_new (w.alloc (.cells (snC g L.length c p o m e) 99)) (.cells sn0 99)
   rw [World.size_alloc] at this; exact this
set_option linter.unusedSimpArgs false
def subB (L : List Bool) (q n : Nat) : List Bool := (L.drop q).take n
theorem qew {L : List Bool} {q n : Nat} (h : q + n ≤ L.length) : (subB L q n).length = n := by unfold subB; rw [List.length_take, List.length_drop]; omega
theorem qur {L : List Bool} {q n i : Nat} (h : i < n) : (subB L q n).getD i false = L.getD (q + i) false := by
 unfold subB
 rw [List.getD_eq_getElem?_getD, List.getD_eq_getElem?_getD, List.getElem?_take, if_pos h, List.getElem?_drop]
theorem qyj {L : List Bool} {q n : Nat} (h : q + 8 * n ≤ L.length) : qb8 (subB L q (8 * n)) = bs (bytF (fun i => L.getD i false) q n) := by
 apply qhc
 rw [qgn, qb4]
 unfold qhd bytF
 rw [qew h, show (8 * n + 7) / 8 = n by omega, List.map_map]
 apply List.map_congr_left
 intro j hj
 have hjn := List.mem_range.1 hj
 unfold qbe
 simp only [Function.comp_apply]
 congr 1
 apply qaz
 intro i hi
 rw [qur (by omega), Nat.add_assoc]
theorem Tryz.undBo : Tryz.prog.underlying 55 = some (.slice (Tryz.prog.elem 55)) := by kernel_rfl
theorem Tryz.szBo (W : World) : (sizeOf (Tryz.prog.elem 55)).run Tryz.prog W = .ok 1 W := by kernel_rfl
def cutV (g c q n : Nat) : Value := .slice (if c = q then some ⟨g, 0, none⟩ else some ⟨g, q, none⟩) n (c - q)
theorem qz3 {g N c q n : Nat} (h : q + n ≤ N) (hc : N ≤ c) (W : World) : (Instr.slice 55 (.slice (some ⟨g, 0, none⟩) N c) (some (.int .i64 (q : Int))) (some (.int .i64 (((q + n : Nat)) : Int))) none).run Tryz.prog W = .ok (cutV g c q n) W := by
 rw [run_slice_lh (ht := Tryz.undBo) (h0 := by omega) (h1 := by omega) (h2 := by omega), Tryz.szBo]
 simp only [Result.andThen, sliced, Int.toNat_natCast, cutV, Nat.mul_one]
 congr 2
 · by_cases e : c = q
   · rw [if_pos e, if_pos e]
   · rw [if_neg e, if_neg e]; simp [Addr.add]; omega
 · omega
theorem OB.cut {W : World} {B g c : Nat} {L : List Bool} (h : OB W B (.slice (some ⟨g, 0, none⟩) L.length c) L) {q n : Nat} (hq : q + n ≤ L.length) : OW W (cutV g c q n) (subB L q n) ∧ L.length ≤ c := by
 have hlt := h.lt
 have hcell := h.cell
 obtain ⟨g', c', e1, ho⟩ := h
 have hc : L.length ≤ c := by
  rcases ho.2 with ⟨e, _⟩ | ⟨g2, c2, _, e, _, _, h1, _⟩
  · cases e
  · cases e; exact h1
 refine ⟨?_, hc⟩
 unfold cutV
 by_cases e : c = q
 · rw [if_pos e]
   refine ⟨g, 0, c - q, by rw [qew hq], hlt.2, fun j hj => ?_⟩
   rw [qew hq] at hj
   omega
 · rw [if_neg e]
   refine ⟨g, q, c - q, by rw [qew hq], hlt.2, fun j hj => ?_⟩
   rw [qew hq] at hj
   rw [hcell (q + j) (by omega), qur hj]
theorem qva (g c p o m e B : Nat) (L : List Bool) (w : World) (hO : OB w B (.slice (some ⟨g, 0, none⟩) L.length c) L) (he : e ≠ 0) (hp : p ≤ 1000000) :
    Calls Tryz.prog 38 #[sn g L.length c p o m e] w fun x w' => (∃ q, x = .returned (.tuple #[sn g L.length c q o m e, .string ⟨#[]⟩])) ∧ Below w.heap.size w w' := by
 obtain ⟨P, hP⟩ : ∃ P, P = (p + 7) / 8 * 8 := ⟨_, rfl⟩
 have hP8 : ((p : Int) + 7) / 8 * 8 = ((P : Nat) : Int) := by omega
 have HS0 : Hid (SB w _ B g c L w.heap.size (w.heap.size + 1) P o m e) := SB.start hO P o m e
 have hej : ((e : Int) != 0) = true := by simp; omega
 have hei : ((e : Int) == 0) = false := by simp; omega
 have hPb : P ≤ 1000007 := by omega
 clear hO hP
 unfold snC sn0 at HS0
 go_enter Tryz.func38, Tryz.ntmps38
 unfold sn
 go_upto_region 2 with fail
 generalize World.alloc (World.alloc w _) _ = W0 at *
 clear hP8
 obtain ⟨⟨a0, a1, a2, a3, a4⟩, _⟩ := qaa HS0.out.bxh
 go_wp2_with fail
 refine (qho g L.length c P o m e 16 W0 he).mono ?_
 rintro e V0 ⟨rfl, hb⟩
 clear a0 a1 a2 a3 a4
 have hs := HS0.out.call hb
 obtain ⟨⟨a0, a1, a2, a3, a4⟩, b0, b1, b2, b3, b4⟩ := qaa hs.bxh
 have HS1 : Hid _ := hs.put P o m e
 unfold put5 at HS1
 unfold sn
 clear hb hs HS0
 go_upto_region 3 with fail
 generalize World.setCell _ _ _ = W1 at *
 clear a0 a1 a2 a3 a4 b0 b1 b2 b3 b4
 obtain ⟨⟨a0, a1, a2, a3, a4⟩, _⟩ := qaa HS1.out.bxh
 go_wp2_with fail
 refine (qho g L.length c P o m e 16 W1 he).mono ?_
 rintro e V1 ⟨rfl, hb⟩
 clear a0 a1 a2 a3 a4
 have hs := HS1.out.call hb
 obtain ⟨⟨a0, a1, a2, a3, a4⟩, b0, b1, b2, b3, b4⟩ := qaa hs.bxh
 have HS2 : Hid _ := hs.put P o m e
 unfold put5 at HS2
 unfold sn
 clear hb hs HS1
 go_upto_region 4 with fail
 generalize World.setCell _ _ _ = W2 at *
 clear a0 a1 a2 a3 a4 b0 b1 b2 b3 b4
 obtain ⟨⟨a0, a1, a2, a3, a4⟩, _⟩ := qaa HS2.out.bxh
 go_wp2_with fail
 refine (qbb g L.length c P o m e _ 3 W2).mono ?_
 rintro e V2 ⟨rfl, hb⟩
 clear a0 a1 a2 a3 a4
 have hs := HS2.out.call hb
 obtain ⟨⟨a0, a1, a2, a3, a4⟩, b0, b1, b2, b3, b4⟩ := qaa hs.bxh
 have HS3 : Hid _ := hs.put P o m e
 unfold put5 at HS3
 rw [if_neg (fun h => he h.2)]
 unfold sn
 clear hb hs HS2
 go_upto_region 5 with fail
 generalize World.setCell _ _ _ = W3 at *
 clear a0 a1 a2 a3 a4 b0 b1 b2 b3 b4
 obtain ⟨⟨a0, a1, a2, a3, a4⟩, _⟩ := qaa HS3.out.bxh
 go_wp2_with fail
 refine (qbb g L.length c P o m e _ 6 W3).mono ?_
 rintro e V3 ⟨rfl, hb⟩
 clear a0 a1 a2 a3 a4
 have hs := HS3.out.call hb
 obtain ⟨⟨a0, a1, a2, a3, a4⟩, b0, b1, b2, b3, b4⟩ := qaa hs.bxh
 have HS4 : Hid _ := hs.put P o m e
 unfold put5 at HS4
 rw [if_neg (fun h => he h.2)]
 unfold sn
 clear hb hs HS3
 go_upto_region 6 with fail
 generalize World.setCell _ _ _ = W4 at *
 clear a0 a1 a2 a3 a4 b0 b1 b2 b3 b4
 obtain ⟨⟨a0, a1, a2, a3, a4⟩, _⟩ := qaa HS4.out.bxh
 obtain ⟨_, b0, b1, b2, b3, b4⟩ := qaa HS4.out.rxh
 have hd := HS4.out.done (.slice (some ⟨g, 0, none⟩) L.length c) (.int .i64 (P : Int)) (.int .i64 (o : Int)) (.int .i64 (m : Int)) (.int .i64 (e : Int))
 obtain ⟨⟨r0, r1, r2, r3, r4⟩, _⟩ := qaa hd.1
 have HBR : Hid (Below w.heap.size w _) := hd.2
 unfold put5 at HBR r0 r1 r2 r3 r4
 clear hd
 go_wp2
 exact bodyPost_ret (v := .tuple #[.agg #[.slice (some ⟨g, 0, none⟩) L.length c, .int .i64 (P : Int), .int .i64 (o : Int), .int .i64 (m : Int), .int .i64 (e : Int)], .string ⟨#[]⟩]) (by simp [results, Tryz.results38, go_sem, r0, r1, r2, r3, r4]) rfl ⟨⟨P, rfl⟩, HBR.out⟩
theorem qvb (g c p o m B : Nat) (L : List Bool) (w : World) (r : Except Nat (List Nat × Nat × Nat)) (hO : OB w B (.slice (some ⟨g, 0, none⟩) L.length c) L) (hN : L.length ≤ 80000) (hp : p ≤ L.length) (ho : o ≤ 100000) (hm : m ≤ 100000) (hr : stF (fun i => L.getD i false) L.length m p o = r) :
    Calls Tryz.prog 38 #[sn g L.length c p o m 0] w fun x w' => ((∃ b q o1, r = .ok (b, q, o1) ∧ x = .returned (.tuple #[sn g L.length c q o1 m 0, .string (bs b)])) ∨ (∃ er q o1 t, r = .error er ∧ er ≠ 0 ∧ x = .returned (.tuple #[sn g L.length c q o1 m er, .string t]))) ∧ Below w.heap.size w w' := by
 obtain ⟨P, hP⟩ : ∃ P, P = (p + 7) / 8 * 8 := ⟨_, rfl⟩
 have hP8 : ((p : Int) + 7) / 8 * 8 = ((P : Nat) : Int) := by omega
 have HS0 : Hid (SB w _ B g c L w.heap.size (w.heap.size + 1) P o m 0) := SB.start hO P o m 0
 have hPb : P ≤ 80007 := by omega
 have HR0 : Hid (r = _) := hr.symm
 unfold stF tkF at HR0
 rw [← hP] at HR0
 have hn16 : qal (fun i => L.getD (P + i) false) 16 < 65536 := qaw _ 16
 have hm16 : qal (fun i => L.getD (P + 16 + i) false) 16 < 65536 := qaw _ 16
 clear hO hr hP
 unfold snC sn0 at HS0
 simp only [show ((0 : Nat) : Int) = 0 from rfl] at HS0
 go_enter Tryz.func38, Tryz.ntmps38
 unfold sn
 go_upto_region 2 with fail
 generalize World.alloc (World.alloc w _) _ = W0 at *
 clear hP8
 by_cases h1 : L.length < P + 16
 · have HR : Hid (r = .error 6) := by unfold Hid; rw [HR0.out, if_pos h1]
   clear HR0
   obtain ⟨⟨a0, a1, a2, a3, a4⟩, _⟩ := qaa HS0.out.bxh
   go_wp2_with fail
   refine (qij g L.length c P o m 16 W0 h1 (by omega) (by omega) (by decide)).mono ?_
   rintro e V0 ⟨rfl, hb⟩
   clear a0 a1 a2 a3 a4
   have hs := HS0.out.call hb
   obtain ⟨⟨a0, a1, a2, a3, a4⟩, b0, b1, b2, b3, b4⟩ := qaa hs.bxh
   have HS1 : Hid _ := hs.put P o m 6
   unfold put5 at HS1
   unfold sn
   clear hb hs HS0
   go_upto_region 3 with fail
   generalize World.setCell _ _ _ = W1 at *
   clear a0 a1 a2 a3 a4 b0 b1 b2 b3 b4
   obtain ⟨⟨a0, a1, a2, a3, a4⟩, _⟩ := qaa HS1.out.bxh
   go_wp2_with fail
   refine (qho g L.length c P o m 6 16 W1 (by decide)).mono ?_
   rintro e V1 ⟨rfl, hb⟩
   clear a0 a1 a2 a3 a4
   have hs := HS1.out.call hb
   obtain ⟨⟨a0, a1, a2, a3, a4⟩, b0, b1, b2, b3, b4⟩ := qaa hs.bxh
   have HS2 : Hid _ := hs.put P o m 6
   unfold put5 at HS2
   unfold sn
   clear hb hs HS1
   go_upto_region 4 with fail
   generalize World.setCell _ _ _ = W2 at *
   clear a0 a1 a2 a3 a4 b0 b1 b2 b3 b4
   obtain ⟨⟨a0, a1, a2, a3, a4⟩, _⟩ := qaa HS2.out.bxh
   go_wp2_with fail
   refine (qbb g L.length c P o m 6 _ 3 W2).mono ?_
   rintro e V2 ⟨rfl, hb⟩
   clear a0 a1 a2 a3 a4
   have hs := HS2.out.call hb
   obtain ⟨⟨a0, a1, a2, a3, a4⟩, b0, b1, b2, b3, b4⟩ := qaa hs.bxh
   have HS3 : Hid _ := hs.put P o m 6
   unfold put5 at HS3
   rw [if_neg (fun h => absurd h.2 (by decide))]
   unfold sn
   clear hb hs HS2
   go_upto_region 5 with fail
   generalize World.setCell _ _ _ = W3 at *
   clear a0 a1 a2 a3 a4 b0 b1 b2 b3 b4
   obtain ⟨⟨a0, a1, a2, a3, a4⟩, _⟩ := qaa HS3.out.bxh
   go_wp2_with fail
   refine (qbb g L.length c P o m 6 _ 6 W3).mono ?_
   rintro e V3 ⟨rfl, hb⟩
   clear a0 a1 a2 a3 a4
   have hs := HS3.out.call hb
   obtain ⟨⟨a0, a1, a2, a3, a4⟩, b0, b1, b2, b3, b4⟩ := qaa hs.bxh
   have HS4 : Hid _ := hs.put P o m 6
   unfold put5 at HS4
   rw [if_neg (fun h => absurd h.2 (by decide))]
   unfold sn
   clear hb hs HS3
   go_upto_region 6 with fail
   generalize World.setCell _ _ _ = W4 at *
   clear a0 a1 a2 a3 a4 b0 b1 b2 b3 b4
   obtain ⟨⟨a0, a1, a2, a3, a4⟩, _⟩ := qaa HS4.out.bxh
   obtain ⟨_, b0, b1, b2, b3, b4⟩ := qaa HS4.out.rxh
   have hd := HS4.out.done (.slice (some ⟨g, 0, none⟩) L.length c) (.int .i64 (P : Int)) (.int .i64 (o : Int)) (.int .i64 (m : Int)) (.int .i64 6)
   obtain ⟨⟨r0, r1, r2, r3, r4⟩, _⟩ := qaa hd.1
   have HBR : Hid (Below w.heap.size w _) := hd.2
   unfold put5 at HBR r0 r1 r2 r3 r4
   clear hd
   go_wp2
   exact bodyPost_ret (v := .tuple #[.agg #[.slice (some ⟨g, 0, none⟩) L.length c, .int .i64 (P : Int), .int .i64 (o : Int), .int .i64 (m : Int), .int .i64 6], .string ⟨#[]⟩]) (by simp [results, Tryz.results38, go_sem, r0, r1, r2, r3, r4]) rfl ⟨.inr ⟨6, P, o, ⟨#[]⟩, HR.out, by decide, rfl⟩, HBR.out⟩
 · replace h1 : P + 16 ≤ L.length := by omega
   rw [if_neg (by omega)] at HR0
   obtain ⟨P1, HP1⟩ : ∃ q, Hid (q = P + 16) := ⟨_, rfl⟩
   obtain ⟨⟨a0, a1, a2, a3, a4⟩, _⟩ := qaa HS0.out.bxh
   go_wp2_with fail
   refine (qgl g c P o m 16 B L W0 HS0.out.ob h1 (by omega) (by decide)).mono ?_
   rintro e V0 ⟨rfl, hb⟩
   clear a0 a1 a2 a3 a4
   have hs := HS0.out.call hb
   obtain ⟨⟨a0, a1, a2, a3, a4⟩, b0, b1, b2, b3, b4⟩ := qaa hs.bxh
   have HS1 : Hid _ := hs.put P1 o m 0
   unfold put5 at HS1
   simp only [show ((0 : Nat) : Int) = 0 from rfl] at HS1
   rw [← HP1.out] at HR0 hm16 ⊢
   generalize qal (fun i => L.getD (P + i) false) 16 = n at *
   unfold sn
   clear hb hs HS0
   go_upto_region 3 with fail
   generalize World.setCell _ _ _ = W1 at *
   clear a0 a1 a2 a3 a4 b0 b1 b2 b3 b4
   have hP1b : P1 ≤ 80023 := by have := HP1.out; omega
   by_cases h2 : L.length < P1 + 16
   · have HR : Hid (r = .error 6) := by unfold Hid; rw [HR0.out, if_pos h2]
     clear HR0 HP1
     obtain ⟨⟨a0, a1, a2, a3, a4⟩, _⟩ := qaa HS1.out.bxh
     go_wp2_with fail
     refine (qij g L.length c P1 o m 16 W1 h2 (by omega) (by omega) (by decide)).mono ?_
     rintro e V1 ⟨rfl, hb⟩
     clear a0 a1 a2 a3 a4
     have hs := HS1.out.call hb
     obtain ⟨⟨a0, a1, a2, a3, a4⟩, b0, b1, b2, b3, b4⟩ := qaa hs.bxh
     have HS2 : Hid _ := hs.put P1 o m 6
     unfold put5 at HS2
     unfold sn
     clear hb hs HS1
     go_upto_region 4 with fail
     generalize World.setCell _ _ _ = W2 at *
     clear a0 a1 a2 a3 a4 b0 b1 b2 b3 b4
     obtain ⟨⟨a0, a1, a2, a3, a4⟩, _⟩ := qaa HS2.out.bxh
     go_wp2_with fail
     refine (qbb g L.length c P1 o m 6 _ 3 W2).mono ?_
     rintro e V2 ⟨rfl, hb⟩
     clear a0 a1 a2 a3 a4
     have hs := HS2.out.call hb
     obtain ⟨⟨a0, a1, a2, a3, a4⟩, b0, b1, b2, b3, b4⟩ := qaa hs.bxh
     have HS3 : Hid _ := hs.put P1 o m 6
     unfold put5 at HS3
     rw [if_neg (fun h => absurd h.2 (by decide))]
     unfold sn
     clear hb hs HS2
     go_upto_region 5 with fail
     generalize World.setCell _ _ _ = W3 at *
     clear a0 a1 a2 a3 a4 b0 b1 b2 b3 b4
     obtain ⟨⟨a0, a1, a2, a3, a4⟩, _⟩ := qaa HS3.out.bxh
     go_wp2_with fail
     refine (qbb g L.length c P1 o m 6 _ 6 W3).mono ?_
     rintro e V3 ⟨rfl, hb⟩
     clear a0 a1 a2 a3 a4
     have hs := HS3.out.call hb
     obtain ⟨⟨a0, a1, a2, a3, a4⟩, b0, b1, b2, b3, b4⟩ := qaa hs.bxh
     have HS4 : Hid _ := hs.put P1 o m 6
     unfold put5 at HS4
     rw [if_neg (fun h => absurd h.2 (by decide))]
     unfold sn
     clear hb hs HS3
     go_upto_region 6 with fail
     generalize World.setCell _ _ _ = W4 at *
     clear a0 a1 a2 a3 a4 b0 b1 b2 b3 b4
     obtain ⟨⟨a0, a1, a2, a3, a4⟩, _⟩ := qaa HS4.out.bxh
     obtain ⟨_, b0, b1, b2, b3, b4⟩ := qaa HS4.out.rxh
     have hd := HS4.out.done (.slice (some ⟨g, 0, none⟩) L.length c) (.int .i64 (P1 : Int)) (.int .i64 (o : Int)) (.int .i64 (m : Int)) (.int .i64 6)
     obtain ⟨⟨r0, r1, r2, r3, r4⟩, _⟩ := qaa hd.1
     have HBR : Hid (Below w.heap.size w _) := hd.2
     unfold put5 at HBR r0 r1 r2 r3 r4
     clear hd
     go_wp2
     exact bodyPost_ret (v := .tuple #[.agg #[.slice (some ⟨g, 0, none⟩) L.length c, .int .i64 (P1 : Int), .int .i64 (o : Int), .int .i64 (m : Int), .int .i64 6], .string ⟨#[]⟩]) (by simp [results, Tryz.results38, go_sem, r0, r1, r2, r3, r4]) rfl ⟨.inr ⟨6, P1, o, ⟨#[]⟩, HR.out, by decide, rfl⟩, HBR.out⟩
   · replace h2 : P1 + 16 ≤ L.length := by omega
     rw [if_neg (by omega)] at HR0
     simp only at HR0
     obtain ⟨P2, HP2⟩ : ∃ q, Hid (q = P1 + 16) := ⟨_, rfl⟩
     obtain ⟨⟨a0, a1, a2, a3, a4⟩, _⟩ := qaa HS1.out.bxh
     go_wp2_with fail
     refine (qgl g c P1 o m 16 B L W1 HS1.out.ob h2 (by omega) (by decide)).mono ?_
     rintro e V1 ⟨rfl, hb⟩
     clear a0 a1 a2 a3 a4
     have hs := HS1.out.call hb
     obtain ⟨⟨a0, a1, a2, a3, a4⟩, b0, b1, b2, b3, b4⟩ := qaa hs.bxh
     have HS2 : Hid _ := hs.put P2 o m 0
     unfold put5 at HS2
     simp only [show ((0 : Nat) : Int) = 0 from rfl] at HS2
     rw [← HP2.out]
     generalize qal (fun i => L.getD (P1 + i) false) 16 = n2 at *
     unfold sn
     clear hb hs HS1
     go_upto_region 4 with fail
     generalize World.setCell _ _ _ = W2 at *
     clear a0 a1 a2 a3 a4 b0 b1 b2 b3 b4
     rw [show P + 32 = P2 by rw [HP2.out, HP1.out]] at HR0
     have hP2b : P2 ≤ L.length := by have := HP2.out; omega
     clear HP1 HP2
     by_cases h3 : n + n2 = 65535
     · rw [if_neg (fun h => h h3)] at HR0
       have hx : ((n : Int) + (n2 : Int) != 65535) = false := by simp; omega
       obtain ⟨⟨a0, a1, a2, a3, a4⟩, _⟩ := qaa HS2.out.bxh
       go_wp2_with fail
       refine (qbb g L.length c P2 o m 0 false 3 W2).mono ?_
       rintro e V2 ⟨rfl, hb⟩
       clear a0 a1 a2 a3 a4
       have hs := HS2.out.call hb
       obtain ⟨⟨a0, a1, a2, a3, a4⟩, b0, b1, b2, b3, b4⟩ := qaa hs.bxh
       have HS3 : Hid _ := hs.put P2 o m 0
       unfold put5 at HS3
       simp only [show ((0 : Nat) : Int) = 0 from rfl] at HS3
       rw [if_neg (fun h => by cases h.1)]
       unfold sn
       clear hb hs HS2
       go_upto_region 5 with fail
       generalize World.setCell _ _ _ = W3 at *
       clear a0 a1 a2 a3 a4 b0 b1 b2 b3 b4
       by_cases h4 : L.length < P2 + 8 * n
       · have HR : Hid (r = .error 6) := by unfold Hid; rw [HR0.out, if_pos h4]
         clear HR0 h3 hx
         have hy : (L.length : Int) < (P2 : Int) + 8 * (n : Int) := by omega
         obtain ⟨⟨a0, a1, a2, a3, a4⟩, _⟩ := qaa HS3.out.bxh
         go_wp2_with fail
         refine (qbb g L.length c P2 o m 0 true 6 W3).mono ?_
         rintro e V3 ⟨rfl, hb⟩
         clear a0 a1 a2 a3 a4
         have hs := HS3.out.call hb
         obtain ⟨⟨a0, a1, a2, a3, a4⟩, b0, b1, b2, b3, b4⟩ := qaa hs.bxh
         have HS4 : Hid _ := hs.put P2 o m 6
         unfold put5 at HS4
         rw [if_pos ⟨rfl, rfl⟩]
         unfold sn
         clear hb hs HS3
         go_upto_region 6 with fail
         generalize World.setCell _ _ _ = W4 at *
         clear a0 a1 a2 a3 a4 b0 b1 b2 b3 b4
         obtain ⟨⟨a0, a1, a2, a3, a4⟩, _⟩ := qaa HS4.out.bxh
         obtain ⟨_, b0, b1, b2, b3, b4⟩ := qaa HS4.out.rxh
         have hd := HS4.out.done (.slice (some ⟨g, 0, none⟩) L.length c) (.int .i64 (P2 : Int)) (.int .i64 (o : Int)) (.int .i64 (m : Int)) (.int .i64 6)
         obtain ⟨⟨r0, r1, r2, r3, r4⟩, _⟩ := qaa hd.1
         have HBR : Hid (Below w.heap.size w _) := hd.2
         unfold put5 at HBR r0 r1 r2 r3 r4
         clear hd
         go_wp2
         exact bodyPost_ret (v := .tuple #[.agg #[.slice (some ⟨g, 0, none⟩) L.length c, .int .i64 (P2 : Int), .int .i64 (o : Int), .int .i64 (m : Int), .int .i64 6], .string ⟨#[]⟩]) (by simp [results, Tryz.results38, go_sem, r0, r1, r2, r3, r4]) rfl ⟨.inr ⟨6, P2, o, ⟨#[]⟩, HR.out, by decide, rfl⟩, HBR.out⟩
       · rw [if_neg h4] at HR0
         clear h3 hx
         have hy : ¬ (L.length : Int) < (P2 : Int) + 8 * (n : Int) := by omega
         obtain ⟨⟨a0, a1, a2, a3, a4⟩, _⟩ := qaa HS3.out.bxh
         go_wp2_with fail
         refine (qbb g L.length c P2 o m 0 false 6 W3).mono ?_
         rintro e V3 ⟨rfl, hb⟩
         clear a0 a1 a2 a3 a4
         have hs := HS3.out.call hb
         obtain ⟨⟨a0, a1, a2, a3, a4⟩, b0, b1, b2, b3, b4⟩ := qaa hs.bxh
         have HS4 : Hid _ := hs.put P2 o m 0
         unfold put5 at HS4
         simp only [show ((0 : Nat) : Int) = 0 from rfl] at HS4
         rw [if_neg (fun h => by cases h.1)]
         unfold sn
         clear hb hs HS3
         go_upto_region 6 with fail
         generalize World.setCell _ _ _ = W4 at *
         clear a0 a1 a2 a3 a4 b0 b1 b2 b3 b4
         obtain ⟨P3, HP3⟩ : ∃ q, Hid (q = P2 + 8 * n) := ⟨_, rfl⟩
         obtain ⟨o2, HO2⟩ : ∃ q, Hid (q = o + n) := ⟨_, rfl⟩
         have hP3i : (P2 : Int) + 8 * (n : Int) = (P3 : Int) := by have := HP3.out; omega
         have ho2i : (o : Int) + (n : Int) = (o2 : Int) := by have := HO2.out; omega
         rw [← HP3.out, ← HO2.out] at HR0
         have hcu := HS4.out.ob.cut (q := P2) (n := 8 * n) (by omega)
         have HTX : Hid (Calls _ _ _ _ _) := qj9 _ _ W4 hcu.1 (by rw [qew (by omega)]; omega)
         rw [qyj (by omega)] at HTX
         have hsl : ∀ W, (Instr.slice 55 (.slice (some ⟨g, 0, none⟩) L.length c) (some (.int .i64 (P2 : Int))) (some (.int .i64 (P3 : Int))) none).run Tryz.prog W = .ok (cutV g c P2 (8 * n)) W := fun W => by
          have := qz3 (g := g) (N := L.length) (c := c) (q := P2) (n := 8 * n) (by omega) hcu.2 W
          rw [← HP3.out] at this
          exact this
         clear hcu
         obtain ⟨T, HT⟩ : ∃ T, Hid (bs (bytF (fun i => L.getD i false) P2 n) = T) := ⟨_, rfl⟩
         rw [HT.out] at HTX
         obtain ⟨⟨a0, a1, a2, a3, a4⟩, _⟩ := qaa HS4.out.bxh
         go_wp2_with fail
         refine (Hid.out HTX : Calls _ _ _ _ _).mono ?_
         rintro e V4 ⟨rfl, hb⟩
         clear a0 a1 a2 a3 a4 hsl HTX
         have hs := HS4.out.call hb
         obtain ⟨⟨a0, a1, a2, a3, a4⟩, b0, b1, b2, b3, b4⟩ := qaa hs.bxh
         have HS6 : Hid (SB w _ B g c L w.heap.size (w.heap.size + 1) P3 o2 m 0) := (hs.set 1 (.int .i64 (P3 : Int)) P3 o m 0 rfl).set 2 (.int .i64 (o2 : Int)) P3 o2 m 0 rfl
         clear hb hs HS4
         go_upto_region 11 with fail
         generalize World.setCell _ _ _ = W6 at *
         clear a0 a1 a2 a3 a4 b0 b1 b2 b3 b4
         obtain ⟨⟨a0, a1, a2, a3, a4⟩, _⟩ := qaa HS6.out.bxh
         by_cases h5 : m < o2
         · have HR : Hid (r = .error 2) := by unfold Hid; rw [HR0.out, if_pos h5]
           have h5i : (m : Int) < (o2 : Int) := by omega
           clear HR0
           go_wp2_with fail
           refine (qbb g L.length c P3 o2 m 0 true 2 W6).mono ?_
           rintro e V6 ⟨rfl, hb⟩
           rw [if_pos ⟨rfl, rfl⟩]
           unfold sn
           clear a0 a1 a2 a3 a4
           have HS7 := HS6.out.call hb
           obtain ⟨_, b0, b1, b2, b3, b4⟩ := qaa HS7.rxh
           have hd := HS7.done (.slice (some ⟨g, 0, none⟩) L.length c) (.int .i64 (P3 : Int)) (.int .i64 (o2 : Int)) (.int .i64 (m : Int)) (.int .i64 2)
           obtain ⟨⟨r0, r1, r2, r3, r4⟩, _⟩ := qaa hd.1
           have HBR : Hid (Below w.heap.size w _) := hd.2
           unfold put5 at HBR r0 r1 r2 r3 r4
           clear hd hb HS7 HS6
           go_wp2
           exact bodyPost_ret (v := .tuple #[.agg #[.slice (some ⟨g, 0, none⟩) L.length c, .int .i64 (P3 : Int), .int .i64 (o2 : Int), .int .i64 (m : Int), .int .i64 2], .string T]) (by simp [results, Tryz.results38, go_sem, r0, r1, r2, r3, r4]) rfl ⟨.inr ⟨2, P3, o2, T, HR.out, by decide, rfl⟩, HBR.out⟩
         · have h5i : ¬ (m : Int) < (o2 : Int) := by omega
           rw [if_neg h5] at HR0
           go_wp2_with fail
           refine (qbb g L.length c P3 o2 m 0 false 2 W6).mono ?_
           rintro e V6 ⟨rfl, hb⟩
           rw [if_neg (fun h => by cases h.1)]
           unfold sn
           clear a0 a1 a2 a3 a4
           have HS7 := HS6.out.call hb
           obtain ⟨_, b0, b1, b2, b3, b4⟩ := qaa HS7.rxh
           have hd := HS7.done (.slice (some ⟨g, 0, none⟩) L.length c) (.int .i64 (P3 : Int)) (.int .i64 (o2 : Int)) (.int .i64 (m : Int)) (.int .i64 0)
           obtain ⟨⟨r0, r1, r2, r3, r4⟩, _⟩ := qaa hd.1
           have HBR : Hid (Below w.heap.size w _) := hd.2
           unfold put5 at HBR r0 r1 r2 r3 r4
           clear hd hb HS7 HS6
           go_wp2
           exact bodyPost_ret (v := .tuple #[.agg #[.slice (some ⟨g, 0, none⟩) L.length c, .int .i64 (P3 : Int), .int .i64 (o2 : Int), .int .i64 (m : Int), .int .i64 0], .string T]) (by simp [results, Tryz.results38, go_sem, r0, r1, r2, r3, r4]) rfl ⟨.inl ⟨_, P3, o2, HR0.out, by rw [HT.out]; rfl⟩, HBR.out⟩
     · have HR : Hid (r = .error 3) := by unfold Hid; rw [HR0.out, if_pos h3]
       clear HR0
       have hx : ((n : Int) + (n2 : Int) != 65535) = true := by simp; omega
       obtain ⟨⟨a0, a1, a2, a3, a4⟩, _⟩ := qaa HS2.out.bxh
       go_wp2_with fail
       refine (qbb g L.length c P2 o m 0 true 3 W2).mono ?_
       rintro e V2 ⟨rfl, hb⟩
       clear a0 a1 a2 a3 a4
       have hs := HS2.out.call hb
       obtain ⟨⟨a0, a1, a2, a3, a4⟩, b0, b1, b2, b3, b4⟩ := qaa hs.bxh
       have HS3 : Hid _ := hs.put P2 o m 3
       unfold put5 at HS3
       rw [if_pos ⟨rfl, rfl⟩]
       unfold sn
       clear hb hs HS2
       go_upto_region 5 with fail
       generalize World.setCell _ _ _ = W3 at *
       clear a0 a1 a2 a3 a4 b0 b1 b2 b3 b4
       obtain ⟨⟨a0, a1, a2, a3, a4⟩, _⟩ := qaa HS3.out.bxh
       go_wp2_with fail
       refine (qbb g L.length c P2 o m 3 _ 6 W3).mono ?_
       rintro e V3 ⟨rfl, hb⟩
       clear a0 a1 a2 a3 a4
       have hs := HS3.out.call hb
       obtain ⟨⟨a0, a1, a2, a3, a4⟩, b0, b1, b2, b3, b4⟩ := qaa hs.bxh
       have HS4 : Hid _ := hs.put P2 o m 3
       unfold put5 at HS4
       rw [if_neg (fun h => absurd h.2 (by decide))]
       unfold sn
       clear hb hs HS3
       go_upto_region 6 with fail
       generalize World.setCell _ _ _ = W4 at *
       clear a0 a1 a2 a3 a4 b0 b1 b2 b3 b4
       obtain ⟨⟨a0, a1, a2, a3, a4⟩, _⟩ := qaa HS4.out.bxh
       obtain ⟨_, b0, b1, b2, b3, b4⟩ := qaa HS4.out.rxh
       have hd := HS4.out.done (.slice (some ⟨g, 0, none⟩) L.length c) (.int .i64 (P2 : Int)) (.int .i64 (o : Int)) (.int .i64 (m : Int)) (.int .i64 3)
       obtain ⟨⟨r0, r1, r2, r3, r4⟩, _⟩ := qaa hd.1
       have HBR : Hid (Below w.heap.size w _) := hd.2
       unfold put5 at HBR r0 r1 r2 r3 r4
       clear hd
       go_wp2
       exact bodyPost_ret (v := .tuple #[.agg #[.slice (some ⟨g, 0, none⟩) L.length c, .int .i64 (P2 : Int), .int .i64 (o : Int), .int .i64 (m : Int), .int .i64 3], .string ⟨#[]⟩]) (by simp [results, Tryz.results38, go_sem, r0, r1, r2, r3, r4]) rfl ⟨.inr ⟨3, P2, o, ⟨#[]⟩, HR.out, by decide, rfl⟩, HBR.out⟩
end Go.Proofs.YthkppipdflmekaaGreat
