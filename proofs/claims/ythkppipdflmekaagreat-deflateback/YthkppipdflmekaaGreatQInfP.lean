/- Contracts of inflate.tree, plant, times, told, Order. -/
import Derived.Test.YthkppipdflmekaaGreatQInfS
import Derived.Test.YthkppipdflmekaaGreatQFindM
import Derived.Deep.RegionHeld
import Derived.Deep.DrawnRows
import Derived.Laws.ResultCell
set_option maxRecDepth 100000
set_option maxHeartbeats 4000000
namespace Go.Proofs.YthkppipdflmekaaGreat
open Go.RowKit
attribute [local go_sem ↓] Go.wp_at_zero Go.wp_at_succ
set_option linter.unusedVariables false
def K1 (ty : TypeId) (w w' : World) : Prop := w.heap.size ≤ w'.heap.size ∧ ∀ (b : Nat) (c : Array Value) (t : TypeId) (p : Nat × Nat), w.heap[b]? = some (Obj.cells c t p) → t ≠ ty → w'.heap[b]? = some (Obj.cells c t p)
theorem qf7 {w w' : World} {g : Nat} {c : Array Value} {ty : TypeId} {p : Nat × Nat} (hg : w.grownBy w' (some g)) (hb : w.heap[g]? = some (Obj.cells c ty p)) : K1 ty w w' := by
 refine ⟨hg.size, fun b c' t p' hc h1 => (hg.block b (Array.getElem?_eq_some_iff.1 hc).1 (fun e => ?_)).trans hc⟩
 obtain rfl : b = g := by cases e; rfl
 rw [hb] at hc
 simp only [Option.some.injEq, Obj.cells.injEq] at hc
 exact h1 hc.2.1.symm
theorem qvx {w w' : World} {B n : Nat} {ty t : TypeId} {sz : Nat} {v : Value} {xs : List Value} (h : w.ownsRow B t sz v n xs) (hk : K1 ty w w') (h1 : t ≠ ty) : w'.ownsRow B t sz v n xs := by
 refine ⟨h.1, ?_⟩
 rcases h.2 with h | ⟨g, cap, cur, a1, a2, a3, a4⟩
 · exact .inl h
 · exact .inr ⟨g, cap, cur, a1, a2, hk.2 _ _ _ _ a3 h1, a4⟩
def qdo (ty : TypeId) : Prop := 142 ≠ ty ∧ 89 ≠ ty ∧ 193 ≠ ty ∧ 210 ≠ ty ∧ 207 ≠ ty
theorem qao.k1 {w w' : World} {B gt k : Nat} {ns : List Nat} {ty : TypeId} (h : qao w B gt ns k) (hk : K1 ty w w') (hf : qdo ty) : qao w' B gt ns k := by
 obtain ⟨n, br, path, h1, h2, ⟨gb, cap, h3⟩, h4⟩ := h
 exact ⟨n, br, path, h1, h2, ⟨gb, cap, ⟨hk.2 _ _ _ _ h3.top hf.2.2.2.1, h3.low, qvx h3.row hk hf.2.2.2.2⟩⟩, h4⟩
theorem qbl.k1 {w w' : World} {gc : Nat} {ls ds : List Nat} {ty : TypeId} (h : qbl w gc ls ds) (hk : K1 ty w w') (hf : qdo ty) : qbl w' gc ls ds := by
 obtain ⟨B1, t1, B2, t2, h1, h2, h3⟩ := h
 exact ⟨B1, t1, B2, t2, hk.2 _ _ _ _ h1 hf.2.2.1, h2.k1 hk hf, h3.k1 hk hf⟩
theorem RdAt.k1 {w w' : World} {B gr gx : Nat} {s : ByteArray} {p most out : Nat} {ty : TypeId} (h : RdAt w B gr gx s p most out) (hk : K1 ty w w') (hf : qdo ty) : RdAt w' B gr gx s p most out := by
 obtain ⟨h1, h2, h3, fp, h4, h5⟩ := h
 refine ⟨h1, h2, hk.2 _ _ _ _ h3 hf.1, fp, hk.2 _ _ _ _ h4 hf.2.1, ?_⟩
 rcases h5 with h | ⟨gc, h6, h7⟩
 · exact .inl h
 · exact .inr ⟨gc, h6, h7.k1 hk hf⟩
theorem qg8 {w w1 w2 : World} {g : Nat} (h : KS w w1) (hg : w1.grownBy w2 (some g)) (hn : w.heap.size ≤ g) : KS w w2 :=
 ⟨Nat.le_trans h.1 hg.size, fun b c t p hb h1 h2 => (hg.block b (Nat.lt_of_lt_of_le (Array.getElem?_eq_some_iff.1 hb).1 h.1) (fun e => by
  have := (Array.getElem?_eq_some_iff.1 hb).1
  cases e; omega)).trans (h.2 b c t p hb h1 h2)⟩
theorem qco (w : World) (o : Obj) : KS w (w.alloc o) := qbd ((Below.refl _ w).alloc (Nat.le_refl _) o)
theorem qru : qdo 95 := by unfold qdo; decide
theorem que {w w1 : World} {B gr gx : Nat} {s : ByteArray} {p most out : Nat} {x y z : Value} (hR : RdAt w1 B gr gx s p most out) (hN : w1.heap[w.heap.size]? = some (.cells #[x, y, z] 95 (0, 0))) (hK : KS w w1) (hB : Below B w w1) (hB0 : B ≤ w.heap.size) (t : Tok) :
    RdAt (put3 w1 w.heap.size t) B gr gx s p most out ∧ KS w (put3 w1 w.heap.size t) ∧ Below B w (put3 w1 w.heap.size t) :=
 ⟨hR.k1 (qf7 (qa1 _ _ _) hN) qru, qg8 hK (qa1 _ _ _) (Nat.le_refl _), hB.grown (qa1 _ _ _) (Nat.le_trans hB0 hB.size) (fun j hj => by cases hj; exact hB0)⟩
theorem qet {w w1 : World} {B : Nat} {x y z : Value} (hN : w1.heap[w.heap.size]? = some (.cells #[x, y, z] 95 (0, 0))) (hK : KS w w1) (hB : Below B w w1) (hB0 : B ≤ w.heap.size) (t : Tok) :
    KS w (put3 w1 w.heap.size t) ∧ Below B w (put3 w1 w.heap.size t) :=
 ⟨qg8 hK (qa1 _ _ _) (Nat.le_refl _), hB.grown (qa1 _ _ _) (Nat.le_trans hB0 hB.size) (fun j hj => by cases hj; exact hB0)⟩
def Lens (ns : List Nat) : Prop := qbh ns ∧ ns.length ≤ 320 ∧ fitB ns = true
theorem qsr (B gr gx gc : Nat) (s : ByteArray) (p most out sym : Nat) (w : World) (hR : RdAt w B gr gx s p most out) (ho : out ≤ 70000) (hm : most ≤ 70000) (hsy : sym < 256) (h : out + 1 ≤ most) :
    Calls Tryz.prog 105 #[.pointer (some ⟨gr, 0, none⟩), .pointer (some ⟨gc, 0, none⟩), .int .i64 (sym : Int)] w fun e w' => e = .returned (.tuple #[tv ⟨sym, 0, 0⟩, .int .i64 0]) ∧ RdAt w' B gr gx s p most (out + 1) ∧ KS w w' ∧ Below B w w' := by
 have hB0 := hR.size
 have hsi : (sym : Int) < 256 := by omega
 have hR0 := hR.below ((Below.refl _ w).alloc (Nat.le_refl _) (.cells #[.int .u8 0, .int .i64 0, .int .i64 0] 95))
 have HB0 : Hid (Below B w (w.alloc (.cells #[.int .u8 0, .int .i64 0, .int .i64 0] 95))) := (Below.refl _ w).alloc hB0 _
 have HN0 : Hid ((w.alloc (.cells #[.int .u8 0, .int .i64 0, .int .i64 0] 95)).heap[w.heap.size]? = some (.cells #[.int .u8 0, .int .i64 0, .int .i64 0] 95 (0, 0))) := heap_alloc_new w _
 have HGR : Hid (Calls _ _ _ _ _) := qpj B gr gx s p most out 1 _ hR0 (by omega) (by omega) (by omega) h
 clear hR0 hR
 go_enter Tryz.func105, Tryz.ntmps105
 go_wp2_with fail
 refine (Hid.out HGR : Calls _ _ _ _ _).mono ?_
 rintro e w1 ⟨rfl, hR1, hK1, hB1⟩
 have hN1 := hK1.2 _ _ _ _ HN0.out (by decide) (by decide)
 obtain ⟨r0, r1, r2, f0, f1, f2⟩ := qaf hN1
 have HO : Hid _ := que hR1 hN1 ((qco w _).trans hK1) (HB0.out.trans hB1) hB0 ⟨sym, 0, 0⟩
 clear HGR hR1 hK1 hB1 hN1 HN0 HB0
 go_wp2
 exact bodyPost_ret (v := .tuple #[.agg #[.int .u8 (sym : Int), .int .i64 0, .int .i64 0], .int .i64 0]) (by simp [results, Tryz.results105, go_sem, *]) rfl ⟨rfl, HO.out.1, HO.out.2.1, HO.out.2.2⟩
theorem qoj (B gr gx gc : Nat) (s : ByteArray) (p most out sym : Nat) (w : World) (hR : RdAt w B gr gx s p most out) (ho : out ≤ 70000) (hm : most ≤ 70000) (hsy : sym < 256) (h : most < out + 1) :
    Calls Tryz.prog 105 #[.pointer (some ⟨gr, 0, none⟩), .pointer (some ⟨gc, 0, none⟩), .int .i64 (sym : Int)] w fun e w' => ∃ t, e = .returned (.tuple #[tv t, .int .i64 2]) ∧ KS w w' ∧ Below B w w' := by
 have hB0 := hR.size
 have hsi : (sym : Int) < 256 := by omega
 have hR0 := hR.below ((Below.refl _ w).alloc (Nat.le_refl _) (.cells #[.int .u8 0, .int .i64 0, .int .i64 0] 95))
 have HB0 : Hid (Below B w (w.alloc (.cells #[.int .u8 0, .int .i64 0, .int .i64 0] 95))) := (Below.refl _ w).alloc hB0 _
 have HN0 : Hid ((w.alloc (.cells #[.int .u8 0, .int .i64 0, .int .i64 0] 95)).heap[w.heap.size]? = some (.cells #[.int .u8 0, .int .i64 0, .int .i64 0] 95 (0, 0))) := heap_alloc_new w _
 have HGR : Hid (Calls _ _ _ _ _) := qly B gr gx s p most out 1 _ hR0 (by omega) (by omega) (by omega) h
 clear hR0 hR
 go_enter Tryz.func105, Tryz.ntmps105
 go_wp2_with fail
 refine (Hid.out HGR : Calls _ _ _ _ _).mono ?_
 rintro e w1 ⟨rfl, hK1, hB1⟩
 have hN1 := hK1.2 _ _ _ _ HN0.out (by decide) (by decide)
 obtain ⟨r0, r1, r2, f0, f1, f2⟩ := qaf hN1
 have HO : Hid _ := qet hN1 ((qco w _).trans hK1) (HB0.out.trans hB1) hB0 ⟨sym, 0, 0⟩
 clear HGR hK1 hB1 hN1 HN0 HB0
 go_wp2
 exact bodyPost_ret (v := .tuple #[.agg #[.int .u8 (sym : Int), .int .i64 0, .int .i64 0], .int .i64 2]) (by simp [results, Tryz.results105, go_sem, *]) rfl ⟨⟨sym, 0, 0⟩, rfl, HO.out.1, HO.out.2⟩
theorem qjf {w : World} {gc : Nat} {ls ds : List Nat} (h : qbl w gc ls ds) : ∃ B1 t1 B2 t2, w.heap[gc]? = some (.cells #[.pointer (some ⟨t1, 0, none⟩), .pointer (some ⟨t2, 0, none⟩)] 193 (0, 0)) ∧ w.cell? ⟨gc, 0, none⟩ = some (.pointer (some ⟨t1, 0, none⟩)) ∧ w.cell? ⟨gc, 1, none⟩ = some (.pointer (some ⟨t2, 0, none⟩)) ∧ qao w B1 t1 ls ls.length ∧ qao w B2 t2 ds ds.length := by
 obtain ⟨B1, t1, B2, t2, h1, h2, h3⟩ := h
 exact ⟨B1, t1, B2, t2, h1, by rw [cell_of_row _ _ _ _ _ _ h1]; rfl, by rw [cell_of_row _ _ _ _ _ _ h1]; rfl, h2, h3⟩
theorem qk1 {f : Nat → Bool} {L p i x q : Nat} {far : Bool} (h : szE f L p i far = .ok (x, q)) (hp : p ≤ L) : x ≤ 33000 ∧ p ≤ q ∧ q ≤ L := by
 obtain ⟨h0, m, hm, rfl, rfl⟩ := qmp h
 have hbd := qd8 far i
 have hml := qcg hm
 have hmb := qaw (fun j => f (p + j)) (szF i far).2
 have h13 : 2 ^ (szF i far).2 ≤ 2 ^ 13 := Nat.pow_le_pow_right (by decide) hbd.2
 omega
theorem qep {w w' : World} {gc t1 t2 : Nat} (h : w.heap[gc]? = some (.cells #[.pointer (some ⟨t1, 0, none⟩), .pointer (some ⟨t2, 0, none⟩)] 193 (0, 0))) (hk : KS w w') : w'.heap[gc]? = some (.cells #[.pointer (some ⟨t1, 0, none⟩), .pointer (some ⟨t2, 0, none⟩)] 193 (0, 0)) ∧ w'.cell? ⟨gc, 0, none⟩ = some (.pointer (some ⟨t1, 0, none⟩)) ∧ w'.cell? ⟨gc, 1, none⟩ = some (.pointer (some ⟨t2, 0, none⟩)) := by
 have h1 := hk.2 _ _ _ _ h (by decide) (by decide)
 exact ⟨h1, by rw [cell_of_row _ _ _ _ _ _ h1]; rfl, by rw [cell_of_row _ _ _ _ _ _ h1]; rfl⟩
theorem qud (B gr gx gc : Nat) (s : ByteArray) (p most out sym : Nat) (ls ds : List Nat) (r : Except Nat (Tok × Nat × Nat)) (w : World) (hR : RdAt w B gr gx s p most out) (hC : qbl w gc ls ds) (hD : Lens ds) (hs : s.size ≤ 100000000) (hp : p ≤ 8 * s.size) (ho : out ≤ 70000) (hm : most ≤ 70000) (hsy : 257 ≤ sym) (hsy2 : sym ≤ 1000) (h : tkE ds (bF8 s) (8 * s.size) most p out sym = r) :
    Calls Tryz.prog 105 #[.pointer (some ⟨gr, 0, none⟩), .pointer (some ⟨gc, 0, none⟩), .int .i64 (sym : Int)] w fun e w' => (∃ t q o, r = .ok (t, q, o) ∧ e = .returned (.tuple #[tv t, .int .i64 0]) ∧ RdAt w' B gr gx s q most o ∧ KS w w' ∧ Below B w w') ∨ (∃ er t, r = .error er ∧ er ≠ 0 ∧ e = .returned (.tuple #[tv t, .int .i64 (er : Int)]) ∧ KS w w' ∧ Below B w w') := by
 have hB0 := hR.size
 obtain ⟨hD15, hDl, hDf⟩ := hD
 obtain ⟨B1, t1, B2, t2, hg0, _, _, hP1, hP2⟩ := qjf hC
 have hsi : ¬ (sym : Int) < 256 := by omega
 have hsub : (sym : Int) - 257 = ((sym - 257 : Nat) : Int) := by omega
 have hR0 := hR.below ((Below.refl _ w).alloc (Nat.le_refl _) (.cells #[.int .u8 0, .int .i64 0, .int .i64 0] 95))
 have HB0 : Hid (Below B w (w.alloc (.cells #[.int .u8 0, .int .i64 0, .int .i64 0] 95))) := (Below.refl _ w).alloc hB0 _
 have HN0 : Hid ((w.alloc (.cells #[.int .u8 0, .int .i64 0, .int .i64 0] 95)).heap[w.heap.size]? = some (.cells #[.int .u8 0, .int .i64 0, .int .i64 0] 95 (0, 0))) := heap_alloc_new w _
 have HG0 : Hid ((w.alloc (.cells #[.int .u8 0, .int .i64 0, .int .i64 0] 95)).heap[gc]? = some (.cells #[.pointer (some ⟨t1, 0, none⟩), .pointer (some ⟨t2, 0, none⟩)] 193 (0, 0))) := (qco w _).2 _ _ _ _ hg0 (by decide) (by decide)
 have HP0 : Hid (qao (w.alloc (.cells #[.int .u8 0, .int .i64 0, .int .i64 0] 95)) B2 t2 ds ds.length) := hP2.ks (qco w _)
 have HKA : Hid (KS w (w.alloc (.cells #[.int .u8 0, .int .i64 0, .int .i64 0] 95))) := qco w _
 have HR0 : Hid (RdAt (w.alloc (.cells #[.int .u8 0, .int .i64 0, .int .i64 0] 95)) B gr gx s p most out) := hR0
 clear hR hC hP1 hP2 hg0 hR0
 unfold tkE at h
 rw [if_neg (by omega)] at h
 generalize hii : sym - 257 = i at *
 cases hz1 : szE (bF8 s) (8 * s.size) p i false with
 | error er =>
  rw [hz1] at h
  simp only at h
  have HZ : Hid (Calls _ _ _ _ _) := qmw B gr gx s p most out i er false _ HR0.out hs hp hz1
  have her : er ≠ 0 := by
   rcases qom hz1 with ⟨_, rfl⟩ | ⟨_, h2⟩
   · decide
   · rw [(qcu h2).2]; decide
  have heri : ((er : Int) != 0) = true := by simpa using her
  clear hz1
  go_enter Tryz.func105, Tryz.ntmps105
  go_wp2_with fail
  refine (Hid.out HZ : Calls _ _ _ _ _).mono ?_
  rintro e w1 ⟨v1, rfl, hK1, hB1⟩
  have hN1 := hK1.2 _ _ _ _ HN0.out (by decide) (by decide)
  have kk := HKA.out.trans hK1
  have bb := HB0.out.trans hB1
  clear HZ hK1 hB1 HN0 HG0 HP0 HR0 HKA HB0
  obtain ⟨z0, z1, z2, y0, y1, y2⟩ := qaf hN1
  have HO : Hid _ := qet hN1 kk bb hB0 qct
  clear hN1
  go_wp2
  exact bodyPost_ret (v := .tuple #[.agg #[.int .u8 0, .int .i64 0, .int .i64 0], .int .i64 (er : Int)]) (by simp [results, Tryz.results105, go_sem, *]) rfl (.inr ⟨_, qct, h.symm, her, rfl, HO.out.1, HO.out.2⟩)
 | ok r1 =>
  obtain ⟨size, p1⟩ := r1
  rw [hz1] at h
  simp only at h
  obtain ⟨hsz1, hp1a, hp1b⟩ := qk1 hz1 hp
  have HZ : Hid (Calls _ _ _ _ _) := qqx B gr gx s p most out i size p1 false _ HR0.out hs hz1
  clear hz1
  go_enter Tryz.func105, Tryz.ntmps105
  go_wp2_with fail
  refine (Hid.out HZ : Calls _ _ _ _ _).mono ?_
  rintro e w1 ⟨rfl, hR1, hK1, hB1⟩
  have HN1 : Hid (w1.heap[w.heap.size]? = some (.cells #[.int .u8 0, .int .i64 0, .int .i64 0] 95 (0, 0))) := hK1.2 _ _ _ _ HN0.out (by decide) (by decide)
  obtain ⟨hg1, g1a, g1b⟩ := qep HG0.out hK1
  have HG1 : Hid (w1.heap[gc]? = some (.cells #[.pointer (some ⟨t1, 0, none⟩), .pointer (some ⟨t2, 0, none⟩)] 193 (0, 0))) := hg1
  have r1a := hR1.cell0
  have HP1 : Hid (qao w1 B2 t2 ds ds.length) := HP0.out.ks hK1
  have HK1 : Hid (KS w w1) := HKA.out.trans hK1
  have HB1 : Hid (Below B w w1) := HB0.out.trans hB1
  have HR1 : Hid (RdAt w1 B gr gx s p1 most out) := hR1
  clear HZ hK1 hB1 HN0 HG0 HP0 HR0 HKA HB0 hR1 hg1 g1a hsub
  cases hx : nxF ds (bF8 s) (8 * s.size) p1 with
  | error er =>
   rw [hx] at h
   simp only at h
   have HX : Hid (∀ W, RdAt W B gr gx s p1 most out → qao W B2 t2 ds ds.length → Calls Tryz.prog 104 #[.pointer (some ⟨t2, 0, none⟩), .pointer (some ⟨gx, 0, none⟩)] W fun e w' => e = .returned (.tuple #[.int .i64 0, .int .i64 (er : Int)]) ∧ er ≠ 0 ∧ KS W w' ∧ Below B W w' ∧ ∃ q, RdAt w' B gr gx s q most out) := fun W h1 h2 => qik B gr gx s p1 most out er B2 t2 ds W h1 hs hp1b h2 hD15 hDl hDf hx
   clear hx
   go_wp2
   go_region_held (fun w' => w'.cell? ⟨gc, 1, none⟩ = some (.pointer (some ⟨t2, 0, none⟩)) ∧ w'.cell? ⟨gr, 0, none⟩ = some (.pointer (some ⟨gx, 0, none⟩))) (first | exact ⟨g1b, r1a⟩ | assumption)
    (first | (go_at_call 104; refine (HX.out _ (HR1.out.drewN 1) (HP1.out.ks (qa7 _ 1))).mono ?_; rintro e w2 ⟨rfl, her, hK2, hB2, q2, hR2⟩; have hS2 : w2.cell? ⟨gc, 1, none⟩ = some (.pointer (some ⟨t2, 0, none⟩)) ∧ w2.cell? ⟨gr, 0, none⟩ = some (.pointer (some ⟨gx, 0, none⟩)) := ⟨(qep HG1.out ((qa7 _ 1).trans hK2)).2.2, hR2.cell0⟩))
   have heri : ((er : Int) != 0) = true := by simpa using her
   have hN2 := hK2.2 _ _ _ _ HN1.out (by decide) (by decide)
   have kk := HK1.out.trans ((qa7 _ 1).trans hK2)
   have bb := HB1.out.trans ((Below.refl _ w1).drew.trans hB2)
   clear hK2 hB2 hR2 hS2 HN1 HG1 HP1 HK1 HB1 HR1 HX g1b r1a
   obtain ⟨z0, z1, z2, y0, y1, y2⟩ := qaf hN2
   have HO : Hid _ := qet hN2 kk bb hB0 qct
   clear hN2
   go_wp2
   exact bodyPost_ret (v := .tuple #[.agg #[.int .u8 0, .int .i64 0, .int .i64 0], .int .i64 (er : Int)]) (by simp [results, Tryz.results105, go_sem, *]) rfl (.inr ⟨_, qct, h.symm, her, rfl, HO.out.1, HO.out.2⟩)
  | ok r2 =>
   obtain ⟨d, p2⟩ := r2
   rw [hx] at h
   simp only at h
   obtain ⟨hdl, hp2a, hp2b⟩ := qdj hD15 hp1b hx
   have HX : Hid (∀ W, RdAt W B gr gx s p1 most out → qao W B2 t2 ds ds.length → Calls Tryz.prog 104 #[.pointer (some ⟨t2, 0, none⟩), .pointer (some ⟨gx, 0, none⟩)] W fun e w' => e = .returned (.tuple #[.int .i64 (d : Int), .int .i64 0]) ∧ RdAt w' B gr gx s p2 most out ∧ KS W w' ∧ Below B W w') := fun W h1 h2 => qla B gr gx s p1 most out d p2 B2 t2 ds W h1 hs hp1b h2 hD15 hDl hDf hx
   clear hx
   go_wp2
   go_region_held (fun w' => w'.cell? ⟨gc, 1, none⟩ = some (.pointer (some ⟨t2, 0, none⟩)) ∧ w'.cell? ⟨gr, 0, none⟩ = some (.pointer (some ⟨gx, 0, none⟩))) (first | exact ⟨g1b, r1a⟩ | assumption)
    (first | (go_at_call 104; refine (HX.out _ (HR1.out.drewN 1) (HP1.out.ks (qa7 _ 1))).mono ?_; rintro e w2 ⟨rfl, hR2, hK2, hB2⟩; have hS2 : w2.cell? ⟨gc, 1, none⟩ = some (.pointer (some ⟨t2, 0, none⟩)) ∧ w2.cell? ⟨gr, 0, none⟩ = some (.pointer (some ⟨gx, 0, none⟩)) := ⟨(qep HG1.out ((qa7 _ 1).trans hK2)).2.2, hR2.cell0⟩))
   have HN2 : Hid (w2.heap[w.heap.size]? = some (.cells #[.int .u8 0, .int .i64 0, .int .i64 0] 95 (0, 0))) := hK2.2 _ _ _ _ HN1.out (by decide) (by decide)
   have HK2 : Hid (KS w w2) := HK1.out.trans ((qa7 _ 1).trans hK2)
   have HB2 : Hid (Below B w w2) := HB1.out.trans ((Below.refl _ w1).drew.trans hB2)
   have HR2 : Hid (RdAt w2 B gr gx s p2 most out) := hR2
   clear hK2 hB2 hR2 hS2 HN1 HG1 HP1 HK1 HB1 HR1 HX g1b r1a
   cases hz2 : szE (bF8 s) (8 * s.size) p2 d true with
   | error er =>
    rw [hz2] at h
    simp only at h
    have HZ : Hid (Calls _ _ _ _ _) := qmw B gr gx s p2 most out d er true _ HR2.out hs hp2b hz2
    have her : er ≠ 0 := by
     rcases qom hz2 with ⟨_, rfl⟩ | ⟨_, h2⟩
     · decide
     · rw [(qcu h2).2]; decide
    have heri : ((er : Int) != 0) = true := by simpa using her
    clear hz2
    go_wp2_with fail
    refine (Hid.out HZ : Calls _ _ _ _ _).mono ?_
    rintro e w3 ⟨v3, rfl, hK3, hB3⟩
    have hN3 := hK3.2 _ _ _ _ HN2.out (by decide) (by decide)
    have kk := HK2.out.trans hK3
    have bb := HB2.out.trans hB3
    clear HZ hK3 hB3 HN2 HK2 HB2 HR2
    obtain ⟨z0, z1, z2, y0, y1, y2⟩ := qaf hN3
    have HO : Hid _ := qet hN3 kk bb hB0 qct
    clear hN3
    go_wp2
    exact bodyPost_ret (v := .tuple #[.agg #[.int .u8 0, .int .i64 0, .int .i64 0], .int .i64 (er : Int)]) (by simp [results, Tryz.results105, go_sem, *]) rfl (.inr ⟨_, qct, h.symm, her, rfl, HO.out.1, HO.out.2⟩)
   | ok r3 =>
    obtain ⟨dist, p3⟩ := r3
    rw [hz2] at h
    simp only at h
    obtain ⟨hsz3, hp3a, hp3b⟩ := qk1 hz2 hp2b
    have HZ : Hid (Calls _ _ _ _ _) := qqx B gr gx s p2 most out d dist p3 true _ HR2.out hs hz2
    clear hz2
    go_wp2_with fail
    refine (Hid.out HZ : Calls _ _ _ _ _).mono ?_
    rintro e w3 ⟨rfl, hR3, hK3, hB3⟩
    have hN3 := hK3.2 _ _ _ _ HN2.out (by decide) (by decide)
    have c2 : w3.cell? ⟨gr, 2, none⟩ = some (.int .i64 (out : Int)) := by
     obtain ⟨_, _, _, fp, h4, _⟩ := hR3
     rw [cell_of_row _ _ _ _ _ _ h4]; rfl
    have kk := HK2.out.trans hK3
    have bb := HB2.out.trans hB3
    have HR3 : Hid (RdAt w3 B gr gx s p3 most out) := hR3
    clear HZ hK3 hB3 hR3 HN2 HK2 HB2 HR2
    by_cases hdo : out < dist
    · rw [if_pos hdo] at h
      have hdi : (out : Int) < (dist : Int) := by omega
      clear HR3
      obtain ⟨z0, z1, z2, y0, y1, y2⟩ := qaf hN3
      have HO : Hid _ := qet hN3 kk bb hB0 qct
      clear hN3
      go_wp2
      exact bodyPost_ret (v := .tuple #[.agg #[.int .u8 0, .int .i64 0, .int .i64 0], .int .i64 3]) (by simp [results, Tryz.results105, go_sem, *]) rfl (.inr ⟨_, qct, h.symm, by decide, rfl, HO.out.1, HO.out.2⟩)
    · rw [if_neg hdo] at h
      have hdi : ¬ (out : Int) < (dist : Int) := by omega
      by_cases hmo : most < out + size
      · rw [if_pos hmo] at h
        have HGR : Hid (Calls _ _ _ _ _) := qly B gr gx s p3 most out size w3 HR3.out (by omega) (by omega) (by omega) hmo
        go_wp2_with fail
        refine (Hid.out HGR : Calls _ _ _ _ _).mono ?_
        rintro e w4 ⟨rfl, hK4, hB4⟩
        have hN4 := hK4.2 _ _ _ _ hN3 (by decide) (by decide)
        obtain ⟨z0, z1, z2, y0, y1, y2⟩ := qaf hN4
        have HO : Hid _ := qet hN4 (kk.trans hK4) (bb.trans hB4) hB0 ⟨0, (size : Int), (dist : Int)⟩
        clear hN4 hN3 HGR hK4 hB4 c2 HR3
        go_wp2
        exact bodyPost_ret (v := .tuple #[.agg #[.int .u8 0, .int .i64 (size : Int), .int .i64 (dist : Int)], .int .i64 2]) (by simp [results, Tryz.results105, go_sem, *]) rfl (.inr ⟨_, ⟨0, (size : Int), (dist : Int)⟩, h.symm, by decide, rfl, HO.out.1, HO.out.2⟩)
      · rw [if_neg hmo] at h
        have HGR : Hid (Calls _ _ _ _ _) := qpj B gr gx s p3 most out size w3 HR3.out (by omega) (by omega) (by omega) (by omega)
        go_wp2_with fail
        refine (Hid.out HGR : Calls _ _ _ _ _).mono ?_
        rintro e w4 ⟨rfl, hR4, hK4, hB4⟩
        have hN4 := hK4.2 _ _ _ _ hN3 (by decide) (by decide)
        obtain ⟨z0, z1, z2, y0, y1, y2⟩ := qaf hN4
        have HO : Hid _ := que hR4 hN4 (kk.trans hK4) (bb.trans hB4) hB0 ⟨0, (size : Int), (dist : Int)⟩
        clear hN4 hN3 HGR hK4 hB4 hR4 c2 HR3
        go_wp2
        exact bodyPost_ret (v := .tuple #[.agg #[.int .u8 0, .int .i64 (size : Int), .int .i64 (dist : Int)], .int .i64 0]) (by simp [results, Tryz.results105, go_sem, *]) rfl (.inl ⟨_, _, _, h.symm, rfl, HO.out.1, HO.out.2.1, HO.out.2.2⟩)
attribute [local go_sem ↓] Go.wp_at_zero Go.wp_at_succ
set_option linter.unusedVariables false
theorem Tryz.infoTk : (Tryz.prog.info? 95).map (fun i => (i.zero, i.size, i.bytes)) = some (some (.agg #[.int .u8 0, .int .i64 0, .int .i64 0]), 3, 24) := by kernel_rfl
theorem qmo (B gr gx gc : Nat) (s : ByteArray) (p most out sym : Nat) (ls ds : List Nat) (r : Except Nat (Tok × Nat × Nat)) (w : World) (hR : RdAt w B gr gx s p most out) (hC : qbl w gc ls ds) (hD : Lens ds) (hs : s.size ≤ 100000000) (hp : p ≤ 8 * s.size) (ho : out ≤ 70000) (hm : most ≤ 70000) (hsy : sym ≠ 256) (hsy2 : sym ≤ 1000) (h : tkE ds (bF8 s) (8 * s.size) most p out sym = r) :
    Calls Tryz.prog 105 #[.pointer (some ⟨gr, 0, none⟩), .pointer (some ⟨gc, 0, none⟩), .int .i64 (sym : Int)] w fun e w' => (∃ t q o, r = .ok (t, q, o) ∧ e = .returned (.tuple #[tv t, .int .i64 0]) ∧ RdAt w' B gr gx s q most o ∧ KS w w' ∧ Below B w w') ∨ (∃ er t, r = .error er ∧ er ≠ 0 ∧ e = .returned (.tuple #[tv t, .int .i64 (er : Int)]) ∧ KS w w' ∧ Below B w w') := by
 by_cases h1 : sym < 256
 · unfold tkE at h
   rw [if_pos h1] at h
   by_cases h2 : most < out + 1
   · rw [if_pos h2] at h
     refine (qoj B gr gx gc s p most out sym w hR ho hm h1 h2).mono ?_
     rintro e w' ⟨t, rfl, hK, hB⟩
     exact .inr ⟨2, t, h.symm, by decide, rfl, hK, hB⟩
   · rw [if_neg h2] at h
     refine (qsr B gr gx gc s p most out sym w hR ho hm h1 (by omega)).mono ?_
     rintro e w' ⟨rfl, hR', hK, hB⟩
     exact .inl ⟨_, _, _, h.symm, rfl, hR', hK, hB⟩
 · exact qud B gr gx gc s p most out sym ls ds r w hR hC hD hs hp ho hm (by omega) hsy2 h
theorem qui {ds : List Nat} (h15 : qbh ds) {f : Nat → Bool} {L most p out sym q o : Nat} {t : Tok} (hp : p ≤ L) (h : tkE ds f L most p out sym = .ok (t, q, o)) : p ≤ q ∧ q ≤ L ∧ o ≤ most ∧ out < o + 1 ∧ (o : Int) = out + wid t ∧ t.b < 256 ∧ (t.l = 0 → t.d = 0) ∧ t.d ≤ (out : Int) ∧ 0 ≤ t.l ∧ t.l ≤ 33000 ∧ 0 ≤ t.d := by
 unfold tkE at h
 by_cases h1 : sym < 256
 · rw [if_pos h1] at h
   by_cases h2 : most < out + 1
   · rw [if_pos h2] at h; cases h
   · rw [if_neg h2] at h
     simp only [Except.ok.injEq, Prod.mk.injEq] at h
     obtain ⟨rfl, rfl, rfl⟩ := h
     exact ⟨by omega, hp, by omega, by omega, rfl, h1, fun _ => rfl, by simp only; omega, by simp, by simp, by simp⟩
 · rw [if_neg h1] at h
   cases hz1 : szE f L p (sym - 257) false with
   | error e => rw [hz1] at h; cases h
   | ok r1 =>
    obtain ⟨size, p1⟩ := r1
    rw [hz1] at h
    simp only at h
    obtain ⟨a1, a2, a3⟩ := qk1 hz1 hp
    cases hx : nxF ds f L p1 with
    | error e => rw [hx] at h; cases h
    | ok r2 =>
     obtain ⟨d, p2⟩ := r2
     rw [hx] at h
     simp only at h
     obtain ⟨_, b1, b2⟩ := qdj h15 a3 hx
     cases hz2 : szE f L p2 d true with
     | error e => rw [hz2] at h; cases h
     | ok r3 =>
      obtain ⟨dist, p3⟩ := r3
      rw [hz2] at h
      simp only at h
      obtain ⟨c1, c2, c3⟩ := qk1 hz2 b2
      by_cases hdo : out < dist
      · rw [if_pos hdo] at h; cases h
      · rw [if_neg hdo] at h
        by_cases hmo : most < out + size
        · rw [if_pos hmo] at h; cases h
        · rw [if_neg hmo] at h
          simp only [Except.ok.injEq, Prod.mk.injEq] at h
          obtain ⟨rfl, rfl, rfl⟩ := h
          have hs1 : 1 ≤ size := by
           obtain ⟨h0, m, _, h3, _⟩ := qmp hz1
           omega
          refine ⟨by omega, c3, by omega, by omega, ?_, by show 0 < 256; decide, fun h => by simp only at h; omega, by simp only; omega, by simp only; omega, by simp only; omega, by simp only; omega⟩
          unfold wid
          simp only
          rw [if_pos (by omega)]; omega
def lenV : Value → Nat
 | .slice _ n _ => n
 | _ => 0
theorem qj1 (w : World) (t : Tok) (ty : TypeId) : ∀ j u, [Value.int .u8 (t.b : Int), .int .i64 t.l, .int .i64 t.d][j]? = some u → (w.alloc (.cells #[.int .u8 (t.b : Int), .int .i64 t.l, .int .i64 t.d] ty)).cell? ((⟨w.heap.size, 0, none⟩ : Addr).add j) = some u :=
 fun j u hu => by
  have hadd : (⟨w.heap.size, 0, none⟩ : Addr).add j = ⟨w.heap.size, j, none⟩ := by unfold Addr.add; split <;> simp_all
  rw [hadd, cell_of_row _ _ _ _ _ _ (heap_alloc_new w _)]
  simpa using hu
theorem qjz (b l d : Int) : ∀ u ∈ [Value.int .u8 b, .int .i64 l, .int .i64 d], u.oneCell' = true := by
 intro u hu
 simp only [List.mem_cons, List.not_mem_nil, or_false] at hu
 rcases hu with rfl | rfl | rfl <;> rfl
theorem RdAt.app {w w' : World} {B C gr gx n : Nat} {s : ByteArray} {p most out : Nat} {v : Value} {xs : List Value} (h : RdAt w B gr gx s p most out) (hO : w.ownsRow C 95 3 v n xs) (hg : w.grownBy w' v.ownBlock) : RdAt w' B gr gx s p most out := by
 have hk : K1 95 w w' := by
  refine ⟨hg.size, fun b c t q hc h1 => (hg.block b (Array.getElem?_eq_some_iff.1 hc).1 (qcd hO hc h1)).trans hc⟩
 exact h.k1 hk qru
theorem q0y {w0 w w' : World} {C n : Nat} {v : Value} {xs : List Value} {sz : Nat} {ty : TypeId} (h : KS w0 w) (hO : w.ownsRow C ty sz v n xs) (hC : w0.heap.size ≤ C) (hg : w.grownBy w' v.ownBlock) : KS w0 w' :=
 ⟨Nat.le_trans h.1 hg.size, fun b c t p hb h1 h2 => (hg.block b (Nat.lt_of_lt_of_le (Array.getElem?_eq_some_iff.1 hb).1 h.1) (fun e => by
  have := (Array.getElem?_eq_some_iff.1 hb).1
  have := (hO.lt b e.symm).1
  omega)).trans (h.2 b c t p hb h1 h2)⟩
theorem qsq (B gr gx gc : Nat) (s : ByteArray) (p most out F : Nat) (ls ds : List Nat) (r : Except Nat (List Tok × Nat × Nat)) (w : World) (hR : RdAt w B gr gx s p most out) (hC : qbl w gc ls ds) (hLs : Lens ls) (hD : Lens ds) (hs : s.size ≤ 100000000) (hp : p ≤ 8 * s.size) (ho : out ≤ most) (hm : most ≤ 70000) (hF : 8 * s.size < p + F) (h : tksF ls ds (bF8 s) (8 * s.size) most F p out [] = r) :
    Calls Tryz.prog 91 #[.pointer (some ⟨gr, 0, none⟩), .pointer (some ⟨gc, 0, none⟩)] w fun e w' => (∃ ts q o v, r = .ok (ts, q, o) ∧ e = .returned (.tuple #[v, .int .i64 0]) ∧ w'.ownsRow w.heap.size 95 3 v ts.length (tcs ts) ∧ q ≤ 8 * s.size ∧ p < q ∧ o ≤ most ∧ RdAt w' B gr gx s q most o ∧ KS w w' ∧ Below B w w') ∨ (∃ er, r = .error er ∧ er ≠ 0 ∧ e = .returned (.tuple #[.slice none 0 0, .int .i64 (er : Int)]) ∧ KS w w' ∧ Below B w w') := by
 obtain ⟨i0, hi, hz0, hz1, hz2⟩ := info_parts Tryz.infoTk
 have hB0 := hR.size
 have HR0 : Hid (RdAt w B gr gx s p most out) := hR
 have HC0 : Hid (qbl w gc ls ds) := hC
 have HH : Hid (tksF ls ds (bF8 s) (8 * s.size) most F p out [] = r) := h
 have HLs : Hid (Lens ls) := hLs
 have HD : Hid (Lens ds) := hD
 clear hR hC h hLs hD
 go_enter Tryz.func91, Tryz.ntmps91
 go_wp2
 go_loopw [6] (fun v wr => ∃ (p' o' F' : Nat) (acc : List Tok), tksF ls ds (bF8 s) (8 * s.size) most F' p' o' acc = r ∧ 8 * s.size < p' + F' ∧ p' ≤ 8 * s.size ∧ p ≤ p' ∧ o' ≤ most ∧ acc.length ≤ p' ∧ wr.ownsRow w.heap.size 95 3 v acc.length (tcs acc) ∧ RdAt wr B gr gx s p' most o' ∧ KS w wr ∧ Below B w wr) (fun v _ => 8 * s.size + 1 - lenV v)
 case atStart => exact ⟨p, out, F, [], HH.out, hF, hp, Nat.le_refl _, ho, Nat.zero_le _, World.ownsRow_nil _ _ _ _, HR0.out, KS.refl _, Below.refl _ _⟩
 case round =>
  clear HH
  obtain ⟨p', o', F', acc, hT, hF', hp', hpp, ho', hacc, hO, hR, hK, hB⟩ := hrel
  have hC := HC0.out.ks hK
  obtain ⟨B1, t1, B2, t2, hg0, g0, g1, hP1, hP2⟩ := qjf hC
  have r0 := hR.cell0
  obtain ⟨hL15, hLl, hLf⟩ := HLs.out
  have HR : Hid (RdAt wr B gr gx s p' most o') := hR
  have HP1 : Hid (qao wr B1 t1 ls ls.length) := hP1
  have HG0 : Hid (wr.heap[gc]? = some (.cells #[.pointer (some ⟨t1, 0, none⟩), .pointer (some ⟨t2, 0, none⟩)] 193 (0, 0))) := hg0
  have HO : Hid (wr.ownsRow w.heap.size 95 3 _ acc.length (tcs acc)) := hO
  have HK : Hid (KS w wr) := hK
  have HB : Hid (Below B w wr) := hB
  have HC : Hid (qbl wr gc ls ds) := hC
  obtain ⟨av, cv, rfl⟩ := qam hO
  clear hC hR hP1 hP2 hg0 g1 hO hK hB
  obtain ⟨F2, rfl⟩ : ∃ F2, F' = F2 + 1 := ⟨F' - 1, by omega⟩
  rw [tksF] at hT
  cases hx : nxF ls (bF8 s) (8 * s.size) p' with
  | error er =>
   rw [hx] at hT
   simp only at hT
   have HX : Hid (∀ W, RdAt W B gr gx s p' most o' → qao W B1 t1 ls ls.length → Calls Tryz.prog 104 #[.pointer (some ⟨t1, 0, none⟩), .pointer (some ⟨gx, 0, none⟩)] W fun e w' => e = .returned (.tuple #[.int .i64 0, .int .i64 (er : Int)]) ∧ er ≠ 0 ∧ KS W w' ∧ Below B W w' ∧ ∃ q, RdAt w' B gr gx s q most o') := fun W h1 h2 => qik B gr gx s p' most o' er B1 t1 ls W h1 hs hp' h2 hL15 hLl hLf hx
   clear hx
   go_wp2
   go_region_held (fun w' => w'.cell? ⟨gc, 0, none⟩ = some (.pointer (some ⟨t1, 0, none⟩)) ∧ w'.cell? ⟨gr, 0, none⟩ = some (.pointer (some ⟨gx, 0, none⟩))) (first | exact ⟨g0, r0⟩ | assumption)
    (first | (go_at_call 104; refine (HX.out _ (HR.out.drewN 1) (HP1.out.ks (qa7 _ 1))).mono ?_; rintro e w2 ⟨rfl, her, hK2, hB2, q2, hR2⟩; have hS2 : w2.cell? ⟨gc, 0, none⟩ = some (.pointer (some ⟨t1, 0, none⟩)) ∧ w2.cell? ⟨gr, 0, none⟩ = some (.pointer (some ⟨gx, 0, none⟩)) := ⟨(qep HG0.out ((qa7 _ 1).trans hK2)).2.1, hR2.cell0⟩))
   have heri : ((er : Int) != 0) = true := by simpa using her
   have HKE : Hid (KS w w2) := HK.out.trans ((qa7 _ 1).trans hK2)
   have HBE : Hid (Below B w w2) := HB.out.trans ((Below.refl _ wr).drew.trans hB2)
   clear hK2 hB2 hR2 hS2 HX g0 r0
   go_wp2
   go_ret2
   exact .inr ⟨er, hT.symm, her, rfl, HKE.out, HBE.out⟩
  | ok r1 =>
   obtain ⟨sym, p1⟩ := r1
   rw [hx] at hT
   simp only at hT
   obtain ⟨hsl, hp1a, hp1b⟩ := qdj hL15 hp' hx
   have HX : Hid (∀ W, RdAt W B gr gx s p' most o' → qao W B1 t1 ls ls.length → Calls Tryz.prog 104 #[.pointer (some ⟨t1, 0, none⟩), .pointer (some ⟨gx, 0, none⟩)] W fun e w' => e = .returned (.tuple #[.int .i64 (sym : Int), .int .i64 0]) ∧ RdAt w' B gr gx s p1 most o' ∧ KS W w' ∧ Below B W w') := fun W h1 h2 => qla B gr gx s p' most o' sym p1 B1 t1 ls W h1 hs hp' h2 hL15 hLl hLf hx
   clear hx
   go_wp2
   go_region_held (fun w' => w'.cell? ⟨gc, 0, none⟩ = some (.pointer (some ⟨t1, 0, none⟩)) ∧ w'.cell? ⟨gr, 0, none⟩ = some (.pointer (some ⟨gx, 0, none⟩))) (first | exact ⟨g0, r0⟩ | assumption)
    (first | (go_at_call 104; refine (HX.out _ (HR.out.drewN 1) (HP1.out.ks (qa7 _ 1))).mono ?_; rintro e w2 ⟨rfl, hR2, hK2, hB2⟩; have hS2 : w2.cell? ⟨gc, 0, none⟩ = some (.pointer (some ⟨t1, 0, none⟩)) ∧ w2.cell? ⟨gr, 0, none⟩ = some (.pointer (some ⟨gx, 0, none⟩)) := ⟨(qep HG0.out ((qa7 _ 1).trans hK2)).2.1, hR2.cell0⟩))
   have hk2 := (qa7 wr 1).trans hK2
   have HK2 : Hid (KS w w2) := HK.out.trans hk2
   have HB2 : Hid (Below B w w2) := HB.out.trans ((Below.refl _ wr).drew.trans hB2)
   have HR2 : Hid (RdAt w2 B gr gx s p1 most o') := hR2
   have HO2 : Hid (w2.ownsRow w.heap.size 95 3 (.slice av acc.length cv) acc.length (tcs acc)) := qf4 HO.out hk2 (by decide) (by decide)
   have HC2 : Hid (qbl w2 gc ls ds) := HC.out.ks hk2
   clear hK2 hB2 hR2 hS2 HX g0 r0 hk2 HR HP1 HG0 HO HK HB HC
   by_cases hse : sym = 256
   · rw [if_pos hse] at hT
     subst hse
     go_wp2
     go_ret2
     exact .inl ⟨acc, p1, o', _, hT.symm, rfl, HO2.out, hp1b, by omega, ho', HR2.out, HK2.out, HB2.out⟩
   · rw [if_neg hse] at hT
     have hsei : ((sym : Int) == 256) = false := by simp; omega
     cases hk : tkE ds (bF8 s) (8 * s.size) most p1 o' sym with
     | error er =>
      rw [hk] at hT
      simp only at hT
      have HTK : Hid (Calls _ _ _ _ _) := qmo B gr gx gc s p1 most o' sym ls ds _ w2 HR2.out HC2.out HD.out hs hp1b (by omega) hm hse (by omega) hk
      clear hk
      go_wp2_with fail
      refine (Hid.out HTK : Calls _ _ _ _ _).mono ?_
      rintro e w3 (⟨t, q, o, hc, _⟩ | ⟨er', t, hc, her, rfl, hK3, hB3⟩)
      · cases hc
      · simp only [Except.error.injEq] at hc
        subst hc
        have heri : ((er : Int) != 0) = true := by simpa using her
        have HKE : Hid (KS w w3) := HK2.out.trans hK3
        have HBE : Hid (Below B w w3) := HB2.out.trans hB3
        have hsz3 : B ≤ w3.heap.size := Nat.le_trans hB0 HBE.out.size
        clear HTK hK3 hB3
        rw [qoi]
        go_wp2
        go_ret2
        exact .inr ⟨er, hT.symm, her, rfl, HKE.out.trans (qco _ _), HBE.out.alloc hsz3 _⟩
     | ok r2 =>
      obtain ⟨t, p2, o2⟩ := r2
      rw [hk] at hT
      simp only at hT
      obtain ⟨hq1, hq2, hq3, _⟩ := qui HD.out.1 hp1b hk
      have HTK : Hid (Calls _ _ _ _ _) := qmo B gr gx gc s p1 most o' sym ls ds _ w2 HR2.out HC2.out HD.out hs hp1b (by omega) hm hse (by omega) hk
      clear hk
      go_wp2_with fail
      refine (Hid.out HTK : Calls _ _ _ _ _).mono ?_
      rintro e w3 (⟨t', q', o'', hc, rfl, hR3, hK3, hB3⟩ | ⟨er', t', hc, _⟩)
      · simp only [Except.ok.injEq, Prod.mk.injEq] at hc
        obtain ⟨rfl, rfl, rfl⟩ := hc
        obtain ⟨tb, tl, td⟩ := t
        rw [qoi]
        have HO3 : Hid ((w3.alloc (.cells #[.int .u8 (tb : Int), .int .i64 tl, .int .i64 td] 95)).ownsRow w.heap.size 95 3 (.slice av acc.length cv) acc.length (tcs acc)) := (qf4 HO2.out hK3 (by decide) (by decide)).alloc _
        have hB3' : Below B w w3 := HB2.out.trans hB3
        have hsz3 : B ≤ w3.heap.size := Nat.le_trans hB0 hB3'.size
        have hsw : w.heap.size ≤ w3.heap.size := hB3'.size
        have HB3 : Hid (Below B w (w3.alloc (.cells #[.int .u8 (tb : Int), .int .i64 tl, .int .i64 td] 95))) := hB3'.alloc hsz3 _
        have HK3 : Hid (KS w (w3.alloc (.cells #[.int .u8 (tb : Int), .int .i64 tl, .int .i64 td] 95))) := (HK2.out.trans hK3).trans (qco _ _)
        have HR3 : Hid (RdAt (w3.alloc (.cells #[.int .u8 (tb : Int), .int .i64 tl, .int .i64 td] 95)) B gr gx s p2 most o2) := hR3.below ((Below.refl _ w3).alloc (Nat.le_refl _) _)
        have h3n := qj1 (w3.alloc (.cells #[.int .u8 (tb : Int), .int .i64 tl, .int .i64 td] 95)) ⟨tb, tl, td⟩ 95
        rw [World.size_alloc] at h3n
        simp only at h3n
        have HN3 : Hid _ := h3n
        have HONE : Hid (∀ u ∈ [Value.int .u8 (tb : Int), .int .i64 tl, .int .i64 td], u.oneCell' = true) := qjz _ _ _
        clear h3n HTK hR3 hK3 hB3 hB3' HK2 HB2 HR2 HO2 HC2
        go_wp2_with (at_builtin; refine wpList_append_own _ rfl _ _ 33 rfl w.heap.size 95 i0 (.agg #[.int .u8 0, .int .i64 0, .int .i64 0]) 3 24 Tryz.underlying33 hi hz0 hz1 hz2 rfl (by decide) _ _ _ rfl (HO3.out.alloc _) ⟨w3.heap.size + 1, 0, none⟩ 1 1 [.int .u8 (tb : Int), .int .i64 tl, .int .i64 td] rfl rfl HN3.out HONE.out (by unfold maxLen; omega) (by omega) (by simp; omega) ?_)
        intro v8 w8 hown8 hg8 _
        have hO8 : w8.ownsRow w.heap.size 95 3 v8 (acc ++ [(⟨tb, tl, td⟩ : Tok)]).length (tcs (acc ++ [(⟨tb, tl, td⟩ : Tok)])) := by rw [qdx, List.length_append]; exact hown8
        have HO8 : Hid (w8.ownsRow w.heap.size 95 3 v8 (acc ++ [(⟨tb, tl, td⟩ : Tok)]).length (tcs (acc ++ [(⟨tb, tl, td⟩ : Tok)]))) := hO8
        have HR8 : Hid (RdAt w8 B gr gx s p2 most o2) := (HR3.out.below ((Below.refl _ _).alloc (Nat.le_refl _) _)).app (HO3.out.alloc _) hg8
        have HK8 : Hid (KS w w8) := q0y (HK3.out.trans (qco _ _)) (HO3.out.alloc _) (Nat.le_refl _) hg8
        have HB8 : Hid (Below B w w8) := (HB3.out.alloc (by rw [World.size_alloc]; omega) _).grown hg8 (by rw [World.size_alloc, World.size_alloc]; omega) (fun q hq => by have := (HO3.out.lt q hq).1; omega)
        obtain ⟨a8, c8, rfl⟩ := qam hO8
        clear hown8 hg8 hO8 HO3 HR3 HK3 HB3 HN3
        go_wp2
        go_roundw
        case rel => exact ⟨p2, o2, F2, acc ++ [⟨tb, tl, td⟩], hT, by omega, hq2, by omega, hq3, by rw [List.length_append, List.length_singleton]; omega, HO8.out, HR8.out, HK8.out, HB8.out⟩
        case measure => simp [lenV]; omega
      · cases hc
def zz (ns : List Nat) : List Int := ns.map fun n : Nat => (n : Int)
theorem qa4 (ns : List Nat) : (zz ns).length = ns.length := by simp [zz]
theorem qhx (ns : List Nat) : toN (zz ns) = ns := by simp [toN, zz, Function.comp_def]
theorem qmi (ns : List Nat) (i : Nat) : (zz ns).getD i 0 = (ns.getD i 0 : Int) := by
 unfold zz
 rw [List.getD_eq_getElem?_getD, List.getElem?_map, List.getD_eq_getElem?_getD]
 cases ns[i]? <;> rfl
theorem qku (ns : List Nat) : in15 (zz ns) ↔ (ns.all fun n => decide (n ≤ 15)) = true := by
 rw [List.all_eq_true]
 constructor
 · intro h n hn
   obtain ⟨i, hi, rfl⟩ := List.getElem_of_mem hn
   have := (h i (by rw [qa4]; exact hi)).2
   rw [qmi, List.getD_eq_getElem?_getD, List.getElem?_eq_getElem hi] at this
   simp only [Option.getD_some] at this
   simp; omega
 · intro h i hi
   rw [qa4] at hi
   have := h ns[i] (List.getElem_mem hi)
   rw [qmi, List.getD_eq_getElem?_getD, List.getElem?_eq_getElem hi]
   simp only [Option.getD_some]
   simp at this; omega
theorem qbx {ns : List Nat} (h : fitE ns = true) : errN (zz ns) = 0 ∧ Lens ns := by
 unfold fitE at h
 simp only [Bool.and_eq_true, decide_eq_true_eq] at h
 obtain ⟨⟨h1, h2⟩, h3⟩ := h
 refine ⟨ql7 (by rw [qa4]; omega) ((qku ns).2 h2) (by rw [qhx]; exact h3), ?_, h1, h3⟩
 intro n hn
 have := List.all_eq_true.1 h2 n hn
 simpa using this
theorem ql5 {ns : List Nat} (h : fitE ns = false) : errN (zz ns) ≠ 0 := by
 intro he
 obtain ⟨h1, h2, h3⟩ := qdu he
 rw [qa4] at h1
 rw [qhx] at h3
 have := (qku ns).1 h2
 unfold fitE at h
 rw [this, h3, decide_eq_true h1] at h
 cases h
theorem qkw (v : Value) (ns : List Nat) (w : World) (hR : IQ w v (zz ns)) (h : fitE ns = true) :
    Calls Tryz.prog 125 #[v] w fun e w' => ∃ B t, e = .returned (.tuple #[.pointer (some ⟨t, 0, none⟩), .int .i64 0]) ∧ qao w' B t ns ns.length ∧ Below w.heap.size w w' := by
 have hp := qvq v (zz ns) w hR (qbx h).1
 rw [qhx, qa4] at hp
 have HP : Hid (Calls _ _ _ _ _) := hp
 clear hp hR
 go_enter Tryz.func125, Tryz.ntmps125
 go_wp2_with fail
 refine (Hid.out HP : Calls _ _ _ _ _).mono ?_
 rintro e w1 ⟨B, _, rfl, hP1, hB1⟩
 have HP1 : Hid (qao w1 B (B + 1) ns ns.length) := hP1
 clear hP1
 go_wp2
 go_ret2
 exact ⟨B, B + 1, rfl, HP1.out, hB1⟩
theorem qkx (v : Value) (ns : List Nat) (w : World) (hR : IQ w v (zz ns)) (hl : ns.length ≤ 400) (h : fitE ns = false) :
    Calls Tryz.prog 125 #[v] w fun e w' => e = .returned (.tuple #[.pointer none, .int .i64 3]) ∧ w' = w := by
 have he := ql5 h
 have HP : Hid (Calls _ _ _ _ _) := qtf v (zz ns) w hR (by rw [qa4]; exact hl) he
 have hei : ((errN (zz ns) : Int) != 0) = true := by simpa using he
 clear hR
 generalize errN (zz ns) = E at *
 go_enter Tryz.func125, Tryz.ntmps125
 go_wp2_with fail
 refine (Hid.out HP : Calls _ _ _ _ _).mono ?_
 rintro e w1 ⟨rfl, rfl⟩
 go_wp2
 go_ret2
 exact ⟨rfl, rfl⟩
theorem qkf (v u : Value) (ls ds : List Nat) (w : World) (hL : IQ w v (zz ls)) (hD : IQ w u (zz ds)) (h1 : fitE ls = true) (h2 : fitE ds = true) :
    Calls Tryz.prog 113 #[v, u] w fun e w' => ∃ gc, e = .returned (.tuple #[.pointer (some ⟨gc, 0, none⟩), .int .i64 0]) ∧ qbl w' gc ls ds ∧ Below w.heap.size w w' := by
 have HT1 : Hid (Calls _ _ _ _ _) := qkw v ls w hL h1
 have HD : Hid (IQ w u (zz ds)) := hD
 clear hL hD
 go_enter Tryz.func113, Tryz.ntmps113
 go_wp2_with fail
 refine (Hid.out HT1 : Calls _ _ _ _ _).mono ?_
 rintro e w1 ⟨B1, t1, rfl, hP1, hB1⟩
 have HT2 : Hid (Calls _ _ _ _ _) := qkw u ds w1 (HD.out.below hB1) h2
 clear HT1
 go_wp2_with fail
 refine (Hid.out HT2 : Calls _ _ _ _ _).mono ?_
 rintro e w2 ⟨B2, t2, rfl, hP2, hB2⟩
 have hA : Below w2.heap.size w2 (w2.alloc (.cells #[.pointer (some ⟨t1, 0, none⟩), .pointer (some ⟨t2, 0, none⟩)] 193)) := (Below.refl _ w2).alloc (Nat.le_refl _) _
 have HC : Hid (qbl (w2.alloc (.cells #[.pointer (some ⟨t1, 0, none⟩), .pointer (some ⟨t2, 0, none⟩)] 193)) w2.heap.size ls ds) := ⟨B1, t1, B2, t2, heap_alloc_new w2 _, (hP1.kept hB2).kept hA, hP2.kept hA⟩
 have hBB : Below w.heap.size w w2 := hB1.trans (hB2.mono hB1.size)
 have HB : Hid (Below w.heap.size w (w2.alloc (.cells #[.pointer (some ⟨t1, 0, none⟩), .pointer (some ⟨t2, 0, none⟩)] 193))) := hBB.alloc hBB.size _
 clear hP1 hP2 hB1 hB2 hA hBB HT2
 go_wp2
 go_ret2
 exact ⟨w2.heap.size, rfl, HC.out, HB.out⟩
theorem qvr (v u : Value) (ls ds : List Nat) (w : World) (hL : IQ w v (zz ls)) (hD : IQ w u (zz ds)) (hl1 : ls.length ≤ 400) (hl2 : ds.length ≤ 400) (h : fitE ls = false ∨ fitE ds = false) :
    Calls Tryz.prog 113 #[v, u] w fun e w' => e = .returned (.tuple #[.pointer none, .int .i64 3]) ∧ Below w.heap.size w w' := by
 cases h1 : fitE ls
 · have HT1 : Hid (Calls _ _ _ _ _) := qkx v ls w hL hl1 h1
   clear hL hD h
   go_enter Tryz.func113, Tryz.ntmps113
   go_wp2_with fail
   refine (Hid.out HT1 : Calls _ _ _ _ _).mono ?_
   rintro e w1 ⟨rfl, rfl⟩
   go_wp2
   go_ret2
   exact ⟨rfl, Below.refl _ _⟩
 · have h2 : fitE ds = false := by
     rcases h with h | h
     · rw [h1] at h; cases h
     · exact h
   have HT1 : Hid (Calls _ _ _ _ _) := qkw v ls w hL h1
   have HD : Hid (IQ w u (zz ds)) := hD
   clear hL hD h
   go_enter Tryz.func113, Tryz.ntmps113
   go_wp2_with fail
   refine (Hid.out HT1 : Calls _ _ _ _ _).mono ?_
   rintro e w1 ⟨B1, t1, rfl, hP1, hB1⟩
   have HT2 : Hid (Calls _ _ _ _ _) := qkx u ds w1 (HD.out.below hB1) hl2 h2
   clear HT1 hP1
   go_wp2_with fail
   refine (Hid.out HT2 : Calls _ _ _ _ _).mono ?_
   rintro e w2 ⟨rfl, rfl⟩
   go_wp2
   go_ret2
   exact ⟨rfl, hB1⟩
theorem quk (sym : Nat) (w : World) :
    Calls Tryz.prog 126 #[.int .i64 (sym : Int)] w fun e w' => e = .returned (.tuple #[.int .i64 ((tmF sym).1 : Int), .int .i64 ((tmF sym).2 : Int)]) ∧ w' = w := by
 by_cases h1 : sym = 16
 · subst h1
   go_enter Tryz.func126, Tryz.ntmps126
   go_wp2
   go_ret2
   exact ⟨rfl, rfl⟩
 · by_cases h2 : sym = 17
   · subst h2
     go_enter Tryz.func126, Tryz.ntmps126
     go_wp2
     go_ret2
     exact ⟨rfl, rfl⟩
   · by_cases h3 : sym = 18
     · subst h3
       go_enter Tryz.func126, Tryz.ntmps126
       go_wp2
       go_ret2
       exact ⟨rfl, rfl⟩
     · have HT : Hid (tmF sym = (1, 0)) := by unfold Hid tmF; rw [if_neg h1, if_neg h2, if_neg h3]
       have i1 : ((sym : Int) == 16) = false := by simp; omega
       have i2 : ((sym : Int) == 17) = false := by simp; omega
       have i3 : ((sym : Int) == 18) = false := by simp; omega
       rw [HT.out]
       go_enter Tryz.func126, Tryz.ntmps126
       go_wp2
       go_ret2
       exact ⟨rfl, rfl⟩
def nc (ns : List Nat) : List Value := ns.map fun n : Nat => Value.int .i64 (n : Int)
theorem qel (ns : List Nat) : (nc ns).length = ns.length := by simp [nc]
theorem qlp (ns : List Nat) (i : Nat) (h : i < ns.length) : (nc ns)[i]? = some (.int .i64 (ns.getD i 0 : Int)) := by
 unfold nc
 rw [List.getElem?_map, List.getD_eq_getElem?_getD, List.getElem?_eq_getElem h]; rfl
theorem qv7 (a b : List Nat) : nc (a ++ b) = nc a ++ nc b := by simp [nc]
theorem qv6 (ns : List Nat) : ∀ v ∈ nc ns, v.oneCell' = true := by
 intro v hv
 simp [nc] at hv
 obtain ⟨z, _, rfl⟩ := hv
 rfl
theorem qx1 (B n : Nat) (v : Value) (row : List Nat) (sym : Nat) (w : World) (hO : w.ownsRow B 3 1 v row.length (nc row)) (hl : row.length ≤ 100000) (h : sym = 16 → 0 < row.length) :
    Calls Tryz.prog 127 #[v, .int .i64 (sym : Int)] w fun e w' => e = .returned (.int .i64 (qec row sym : Int)) ∧ w' = w := by
 by_cases h1 : sym = 16
 · have h0 := h h1
   subst h1
   obtain ⟨g, cap, rfl, _⟩ := qch hO h0
   have hc := hO.cellAt (row.length - 1) (by omega)
   rw [qlp row _ (by omega)] at hc
   have HT : Hid (qec row 16 = row.getD (row.length - 1) 0) := rfl
   have hix : (row.length : Int) - 1 = ((row.length - 1 : Nat) : Int) := by omega
   rw [HT.out]
   clear hO h
   generalize row.getD (row.length - 1) 0 = y at *
   go_enter Tryz.func127, Tryz.ntmps127
   go_wp2
   go_ret
   exact ⟨rfl, rfl⟩
 · have i1 : ((sym : Int) == 16) = false := by simp; omega
   by_cases h2 : sym = 17
   · subst h2
     go_enter Tryz.func127, Tryz.ntmps127
     go_wp2
     go_ret
     exact ⟨rfl, rfl⟩
   · have i2 : ((sym : Int) == 17) = false := by simp; omega
     by_cases h3 : sym = 18
     · subst h3
       go_enter Tryz.func127, Tryz.ntmps127
       go_wp2
       go_ret
       exact ⟨rfl, rfl⟩
     · have HT : Hid (qec row sym = sym) := by unfold Hid qec; rw [if_neg h1, if_neg (by omega)]
       have i3 : ((sym : Int) == 18) = false := by simp; omega
       rw [HT.out]
       clear hO h
       go_enter Tryz.func127, Tryz.ntmps127
       go_wp2
       go_ret
       exact ⟨rfl, rfl⟩
end Go.Proofs.YthkppipdflmekaaGreat
