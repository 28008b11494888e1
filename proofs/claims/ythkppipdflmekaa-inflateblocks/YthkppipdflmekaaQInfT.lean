/- Contract of the reader's token. -/
import Derived.Test.YthkppipdflmekaaQInfS
import Derived.Test.YthkppipdflmekaaQPut3
import Derived.Deep.RegionHeld
import Derived.Deep.DrawnRows
import Derived.Laws.ResultCell
namespace Go.Proofs.Ythkppipdflmekaa
open Go.RowKit
attribute [local go_sem ↓] Go.wp_at_zero Go.wp_at_succ
set_option linter.unusedVariables false

/-- But for blocks of one type all stay. -/
def K1 (ty : TypeId) (w w' : World) : Prop := w.heap.size ≤ w'.heap.size ∧ ∀ (b : Nat) (c : Array Value) (t : TypeId) (p : Nat × Nat), w.heap[b]? = some (Obj.cells c t p) → t ≠ ty → w'.heap[b]? = some (Obj.cells c t p)
theorem k1_grown {w w' : World} {g : Nat} {c : Array Value} {ty : TypeId} {p : Nat × Nat} (hg : w.grownBy w' (some g)) (hb : w.heap[g]? = some (Obj.cells c ty p)) : K1 ty w w' := by
  refine ⟨hg.size, fun b c' t p' hc h1 => (hg.block b (Array.getElem?_eq_some_iff.1 hc).1 (fun e => ?_)).trans hc⟩
  obtain rfl : b = g := by cases e; rfl
  rw [hb] at hc
  simp only [Option.some.injEq, Obj.cells.injEq] at hc
  exact h1 hc.2.1.symm
theorem own_k1 {w w' : World} {B n : Nat} {ty t : TypeId} {sz : Nat} {v : Value} {xs : List Value} (h : w.ownsRow B t sz v n xs) (hk : K1 ty w w') (h1 : t ≠ ty) : w'.ownsRow B t sz v n xs := by
  refine ⟨h.1, ?_⟩
  rcases h.2 with h | ⟨g, cap, cur, a1, a2, a3, a4⟩
  · exact .inl h
  · exact .inr ⟨g, cap, cur, a1, a2, hk.2 _ _ _ _ a3 h1, a4⟩
/-- A type that neither a reader nor what it leads to has. -/
def Foreign (ty : TypeId) : Prop := 75 ≠ ty ∧ 51 ≠ ty ∧ 110 ≠ ty ∧ 125 ≠ ty ∧ 122 ≠ ty
theorem Planted.k1 {w w' : World} {B gt k : Nat} {ns : List Nat} {ty : TypeId} (h : Planted w B gt ns k) (hk : K1 ty w w') (hf : Foreign ty) : Planted w' B gt ns k := by
  obtain ⟨n, br, path, h1, h2, ⟨gb, cap, h3⟩, h4⟩ := h
  exact ⟨n, br, path, h1, h2, ⟨gb, cap, ⟨hk.2 _ _ _ _ h3.top hf.2.2.2.1, h3.low, own_k1 h3.row hk hf.2.2.2.2⟩⟩, h4⟩
theorem CodesAt.k1 {w w' : World} {gc : Nat} {ls ds : List Nat} {ty : TypeId} (h : CodesAt w gc ls ds) (hk : K1 ty w w') (hf : Foreign ty) : CodesAt w' gc ls ds := by
  obtain ⟨B1, t1, B2, t2, h1, h2, h3⟩ := h
  exact ⟨B1, t1, B2, t2, hk.2 _ _ _ _ h1 hf.2.2.1, h2.k1 hk hf, h3.k1 hk hf⟩
theorem RdAt.k1 {w w' : World} {B gr gx : Nat} {s : ByteArray} {p most out : Nat} {ty : TypeId} (h : RdAt w B gr gx s p most out) (hk : K1 ty w w') (hf : Foreign ty) : RdAt w' B gr gx s p most out := by
  obtain ⟨h1, h2, h3, fp, h4, h5⟩ := h
  refine ⟨h1, h2, hk.2 _ _ _ _ h3 hf.1, fp, hk.2 _ _ _ _ h4 hf.2.1, ?_⟩
  rcases h5 with h | ⟨gc, h6, h7⟩
  · exact .inl h
  · exact .inr ⟨gc, h6, h7.k1 hk hf⟩
theorem ks_new {w w1 w2 : World} {g : Nat} (h : KS w w1) (hg : w1.grownBy w2 (some g)) (hn : w.heap.size ≤ g) : KS w w2 :=
  ⟨Nat.le_trans h.1 hg.size, fun b c t p hb h1 h2 => (hg.block b (Nat.lt_of_lt_of_le (Array.getElem?_eq_some_iff.1 hb).1 h.1) (fun e => by
    have := (Array.getElem?_eq_some_iff.1 hb).1
    cases e; omega)).trans (h.2 b c t p hb h1 h2)⟩
theorem ks_alloc (w : World) (o : Obj) : KS w (w.alloc o) := ks_below ((Below.refl _ w).alloc (Nat.le_refl _) o)
theorem foreignT : Foreign 43 := by unfold Foreign; decide
/-- What the token's result cell makes of it. -/
theorem tok_out {w w1 : World} {B gr gx : Nat} {s : ByteArray} {p most out : Nat} {x y z : Value} (hR : RdAt w1 B gr gx s p most out) (hN : w1.heap[w.heap.size]? = some (.cells #[x, y, z] 43 (0, 0))) (hK : KS w w1) (hB : Below B w w1) (hB0 : B ≤ w.heap.size) (t : Tok) :
    RdAt (put3 w1 w.heap.size t) B gr gx s p most out ∧ KS w (put3 w1 w.heap.size t) ∧ Below B w (put3 w1 w.heap.size t) :=
  ⟨hR.k1 (k1_grown (put3_grown _ _ _) hN) foreignT, ks_new hK (put3_grown _ _ _) (Nat.le_refl _), hB.grown (put3_grown _ _ _) (Nat.le_trans hB0 hB.size) (fun j hj => by cases hj; exact hB0)⟩
theorem tok_outE {w w1 : World} {B : Nat} {x y z : Value} (hN : w1.heap[w.heap.size]? = some (.cells #[x, y, z] 43 (0, 0))) (hK : KS w w1) (hB : Below B w w1) (hB0 : B ≤ w.heap.size) (t : Tok) :
    KS w (put3 w1 w.heap.size t) ∧ Below B w (put3 w1 w.heap.size t) :=
  ⟨ks_new hK (put3_grown _ _ _) (Nat.le_refl _), hB.grown (put3_grown _ _ _) (Nat.le_trans hB0 hB.size) (fun j hj => by cases hj; exact hB0)⟩
/-- Lengths of which there are codes. -/
def Lens (ns : List Nat) : Prop := all15 ns ∧ ns.length ≤ 320 ∧ fitB ns = true
set_option maxRecDepth 100000 in
set_option maxHeartbeats 2000000 in
theorem token_byte (B gr gx gc : Nat) (s : ByteArray) (p most out sym : Nat) (w : World) (hR : RdAt w B gr gx s p most out) (ho : out ≤ 70000) (hm : most ≤ 70000) (hsy : sym < 256) (h : out + 1 ≤ most) :
    Calls Try.prog 50 #[.pointer (some ⟨gr, 0, none⟩), .pointer (some ⟨gc, 0, none⟩), .int .i64 (sym : Int)] w fun e w' => e = .returned (.tuple #[tv ⟨sym, 0, 0⟩, .int .i64 0]) ∧ RdAt w' B gr gx s p most (out + 1) ∧ KS w w' ∧ Below B w w' := by
  have hB0 := hR.size
  have hsi : (sym : Int) < 256 := by omega
  have hR0 := hR.below ((Below.refl _ w).alloc (Nat.le_refl _) (.cells #[.int .u8 0, .int .i64 0, .int .i64 0] 43))
  have HB0 : Hid (Below B w (w.alloc (.cells #[.int .u8 0, .int .i64 0, .int .i64 0] 43))) := (Below.refl _ w).alloc hB0 _
  have HN0 : Hid ((w.alloc (.cells #[.int .u8 0, .int .i64 0, .int .i64 0] 43)).heap[w.heap.size]? = some (.cells #[.int .u8 0, .int .i64 0, .int .i64 0] 43 (0, 0))) := heap_alloc_new w _
  have HGR : Hid (Calls _ _ _ _ _) := grow_ok B gr gx s p most out 1 _ hR0 (by omega) (by omega) (by omega) h
  clear hR0 hR
  go_enter Try.func50, Try.ntmps50
  go_wp2_with fail
  refine (Hid.out HGR : Calls _ _ _ _ _).mono ?_
  rintro e w1 ⟨rfl, hR1, hK1, hB1⟩
  have hN1 := hK1.2 _ _ _ _ HN0.out (by decide) (by decide)
  obtain ⟨r0, r1, r2, f0, f1, f2⟩ := tok_cell hN1
  have HO : Hid _ := tok_out hR1 hN1 ((ks_alloc w _).trans hK1) (HB0.out.trans hB1) hB0 ⟨sym, 0, 0⟩
  clear HGR hR1 hK1 hB1 hN1 HN0 HB0
  go_wp2
  exact bodyPost_ret (v := .tuple #[.agg #[.int .u8 (sym : Int), .int .i64 0, .int .i64 0], .int .i64 0]) (by simp [results, Try.results50, go_sem, *]) rfl ⟨rfl, HO.out.1, HO.out.2.1, HO.out.2.2⟩
set_option maxRecDepth 100000 in
set_option maxHeartbeats 2000000 in
theorem token_byteE (B gr gx gc : Nat) (s : ByteArray) (p most out sym : Nat) (w : World) (hR : RdAt w B gr gx s p most out) (ho : out ≤ 70000) (hm : most ≤ 70000) (hsy : sym < 256) (h : most < out + 1) :
    Calls Try.prog 50 #[.pointer (some ⟨gr, 0, none⟩), .pointer (some ⟨gc, 0, none⟩), .int .i64 (sym : Int)] w fun e w' => ∃ t, e = .returned (.tuple #[tv t, .int .i64 2]) ∧ KS w w' ∧ Below B w w' := by
  have hB0 := hR.size
  have hsi : (sym : Int) < 256 := by omega
  have hR0 := hR.below ((Below.refl _ w).alloc (Nat.le_refl _) (.cells #[.int .u8 0, .int .i64 0, .int .i64 0] 43))
  have HB0 : Hid (Below B w (w.alloc (.cells #[.int .u8 0, .int .i64 0, .int .i64 0] 43))) := (Below.refl _ w).alloc hB0 _
  have HN0 : Hid ((w.alloc (.cells #[.int .u8 0, .int .i64 0, .int .i64 0] 43)).heap[w.heap.size]? = some (.cells #[.int .u8 0, .int .i64 0, .int .i64 0] 43 (0, 0))) := heap_alloc_new w _
  have HGR : Hid (Calls _ _ _ _ _) := grow_err B gr gx s p most out 1 _ hR0 (by omega) (by omega) (by omega) h
  clear hR0 hR
  go_enter Try.func50, Try.ntmps50
  go_wp2_with fail
  refine (Hid.out HGR : Calls _ _ _ _ _).mono ?_
  rintro e w1 ⟨rfl, hK1, hB1⟩
  have hN1 := hK1.2 _ _ _ _ HN0.out (by decide) (by decide)
  obtain ⟨r0, r1, r2, f0, f1, f2⟩ := tok_cell hN1
  have HO : Hid _ := tok_outE hN1 ((ks_alloc w _).trans hK1) (HB0.out.trans hB1) hB0 ⟨sym, 0, 0⟩
  clear HGR hK1 hB1 hN1 HN0 HB0
  go_wp2
  exact bodyPost_ret (v := .tuple #[.agg #[.int .u8 (sym : Int), .int .i64 0, .int .i64 0], .int .i64 2]) (by simp [results, Try.results50, go_sem, *]) rfl ⟨⟨sym, 0, 0⟩, rfl, HO.out.1, HO.out.2⟩
theorem codes_cells {w : World} {gc : Nat} {ls ds : List Nat} (h : CodesAt w gc ls ds) : ∃ B1 t1 B2 t2, w.heap[gc]? = some (.cells #[.pointer (some ⟨t1, 0, none⟩), .pointer (some ⟨t2, 0, none⟩)] 110 (0, 0)) ∧ w.cell? ⟨gc, 0, none⟩ = some (.pointer (some ⟨t1, 0, none⟩)) ∧ w.cell? ⟨gc, 1, none⟩ = some (.pointer (some ⟨t2, 0, none⟩)) ∧ Planted w B1 t1 ls ls.length ∧ Planted w B2 t2 ds ds.length := by
  obtain ⟨B1, t1, B2, t2, h1, h2, h3⟩ := h
  exact ⟨B1, t1, B2, t2, h1, by rw [cell_of_row _ _ _ _ _ _ h1]; rfl, by rw [cell_of_row _ _ _ _ _ _ h1]; rfl, h2, h3⟩
theorem szE_pos {f : Nat → Bool} {L p i x q : Nat} {far : Bool} (h : szE f L p i far = .ok (x, q)) (hp : p ≤ L) : x ≤ 33000 ∧ p ≤ q ∧ q ≤ L := by
  obtain ⟨h0, m, hm, rfl, rfl⟩ := szE_ok h
  have hbd := szF_bd far i
  have hml := tkF_ok hm
  have hmb := takeN_lt (fun j => f (p + j)) (szF i far).2
  have h13 : 2 ^ (szF i far).2 ≤ 2 ^ 13 := Nat.pow_le_pow_right (by decide) hbd.2
  omega
/-- The cell that Next's region reads stays. -/
theorem code_cell {w w' : World} {gc t1 t2 : Nat} (h : w.heap[gc]? = some (.cells #[.pointer (some ⟨t1, 0, none⟩), .pointer (some ⟨t2, 0, none⟩)] 110 (0, 0))) (hk : KS w w') : w'.heap[gc]? = some (.cells #[.pointer (some ⟨t1, 0, none⟩), .pointer (some ⟨t2, 0, none⟩)] 110 (0, 0)) ∧ w'.cell? ⟨gc, 0, none⟩ = some (.pointer (some ⟨t1, 0, none⟩)) ∧ w'.cell? ⟨gc, 1, none⟩ = some (.pointer (some ⟨t2, 0, none⟩)) := by
  have h1 := hk.2 _ _ _ _ h (by decide) (by decide)
  exact ⟨h1, by rw [cell_of_row _ _ _ _ _ _ h1]; rfl, by rw [cell_of_row _ _ _ _ _ _ h1]; rfl⟩
set_option maxRecDepth 100000 in
set_option maxHeartbeats 4000000 in
theorem token_rep (B gr gx gc : Nat) (s : ByteArray) (p most out sym : Nat) (ls ds : List Nat) (r : Except Nat (Tok × Nat × Nat)) (w : World) (hR : RdAt w B gr gx s p most out) (hC : CodesAt w gc ls ds) (hD : Lens ds) (hs : s.size ≤ 100000000) (hp : p ≤ 8 * s.size) (ho : out ≤ 70000) (hm : most ≤ 70000) (hsy : 257 ≤ sym) (hsy2 : sym ≤ 1000) (h : tkE ds (bF8 s) (8 * s.size) most p out sym = r) :
    Calls Try.prog 50 #[.pointer (some ⟨gr, 0, none⟩), .pointer (some ⟨gc, 0, none⟩), .int .i64 (sym : Int)] w fun e w' => (∃ t q o, r = .ok (t, q, o) ∧ e = .returned (.tuple #[tv t, .int .i64 0]) ∧ RdAt w' B gr gx s q most o ∧ KS w w' ∧ Below B w w') ∨ (∃ er t, r = .error er ∧ er ≠ 0 ∧ e = .returned (.tuple #[tv t, .int .i64 (er : Int)]) ∧ KS w w' ∧ Below B w w') := by
  have hB0 := hR.size
  obtain ⟨hD15, hDl, hDf⟩ := hD
  obtain ⟨B1, t1, B2, t2, hg0, _, _, hP1, hP2⟩ := codes_cells hC
  have hsi : ¬ (sym : Int) < 256 := by omega
  have hsub : (sym : Int) - 257 = ((sym - 257 : Nat) : Int) := by omega
  have hR0 := hR.below ((Below.refl _ w).alloc (Nat.le_refl _) (.cells #[.int .u8 0, .int .i64 0, .int .i64 0] 43))
  have HB0 : Hid (Below B w (w.alloc (.cells #[.int .u8 0, .int .i64 0, .int .i64 0] 43))) := (Below.refl _ w).alloc hB0 _
  have HN0 : Hid ((w.alloc (.cells #[.int .u8 0, .int .i64 0, .int .i64 0] 43)).heap[w.heap.size]? = some (.cells #[.int .u8 0, .int .i64 0, .int .i64 0] 43 (0, 0))) := heap_alloc_new w _
  have HG0 : Hid ((w.alloc (.cells #[.int .u8 0, .int .i64 0, .int .i64 0] 43)).heap[gc]? = some (.cells #[.pointer (some ⟨t1, 0, none⟩), .pointer (some ⟨t2, 0, none⟩)] 110 (0, 0))) := (ks_alloc w _).2 _ _ _ _ hg0 (by decide) (by decide)
  have HP0 : Hid (Planted (w.alloc (.cells #[.int .u8 0, .int .i64 0, .int .i64 0] 43)) B2 t2 ds ds.length) := hP2.ks (ks_alloc w _)
  have HKA : Hid (KS w (w.alloc (.cells #[.int .u8 0, .int .i64 0, .int .i64 0] 43))) := ks_alloc w _
  have HR0 : Hid (RdAt (w.alloc (.cells #[.int .u8 0, .int .i64 0, .int .i64 0] 43)) B gr gx s p most out) := hR0
  clear hR hC hP1 hP2 hg0 hR0
  unfold tkE at h
  rw [if_neg (by omega)] at h
  generalize hii : sym - 257 = i at *
  cases hz1 : szE (bF8 s) (8 * s.size) p i false with
  | error er =>
    rw [hz1] at h
    simp only at h
    have HZ : Hid (Calls _ _ _ _ _) := rsize_err B gr gx s p most out i er false _ HR0.out hs hp hz1
    have her : er ≠ 0 := by
      rcases szE_err hz1 with ⟨_, rfl⟩ | ⟨_, h2⟩
      · decide
      · rw [(tkF_err h2).2]; decide
    have heri : ((er : Int) != 0) = true := by simpa using her
    clear hz1
    go_enter Try.func50, Try.ntmps50
    go_wp2_with fail
    refine (Hid.out HZ : Calls _ _ _ _ _).mono ?_
    rintro e w1 ⟨v1, rfl, hK1, hB1⟩
    have hN1 := hK1.2 _ _ _ _ HN0.out (by decide) (by decide)
    have kk := HKA.out.trans hK1
    have bb := HB0.out.trans hB1
    clear HZ hK1 hB1 HN0 HG0 HP0 HR0 HKA HB0
    obtain ⟨z0, z1, z2, y0, y1, y2⟩ := tok_cell hN1
    have HO : Hid _ := tok_outE hN1 kk bb hB0 zeroT
    clear hN1
    go_wp2
    exact bodyPost_ret (v := .tuple #[.agg #[.int .u8 0, .int .i64 0, .int .i64 0], .int .i64 (er : Int)]) (by simp [results, Try.results50, go_sem, *]) rfl (.inr ⟨_, zeroT, h.symm, her, rfl, HO.out.1, HO.out.2⟩)
  | ok r1 =>
    obtain ⟨size, p1⟩ := r1
    rw [hz1] at h
    simp only at h
    obtain ⟨hsz1, hp1a, hp1b⟩ := szE_pos hz1 hp
    have HZ : Hid (Calls _ _ _ _ _) := rsize_ok B gr gx s p most out i size p1 false _ HR0.out hs hz1
    clear hz1
    go_enter Try.func50, Try.ntmps50
    go_wp2_with fail
    refine (Hid.out HZ : Calls _ _ _ _ _).mono ?_
    rintro e w1 ⟨rfl, hR1, hK1, hB1⟩
    have HN1 : Hid (w1.heap[w.heap.size]? = some (.cells #[.int .u8 0, .int .i64 0, .int .i64 0] 43 (0, 0))) := hK1.2 _ _ _ _ HN0.out (by decide) (by decide)
    obtain ⟨hg1, g1a, g1b⟩ := code_cell HG0.out hK1
    have HG1 : Hid (w1.heap[gc]? = some (.cells #[.pointer (some ⟨t1, 0, none⟩), .pointer (some ⟨t2, 0, none⟩)] 110 (0, 0))) := hg1
    have r1a := hR1.cell0
    have HP1 : Hid (Planted w1 B2 t2 ds ds.length) := HP0.out.ks hK1
    have HK1 : Hid (KS w w1) := HKA.out.trans hK1
    have HB1 : Hid (Below B w w1) := HB0.out.trans hB1
    have HR1 : Hid (RdAt w1 B gr gx s p1 most out) := hR1
    clear HZ hK1 hB1 HN0 HG0 HP0 HR0 HKA HB0 hR1 hg1 g1a hsub
    cases hx : nxF ds (bF8 s) (8 * s.size) p1 with
    | error er =>
      rw [hx] at h
      simp only at h
      have HX : Hid (∀ W, RdAt W B gr gx s p1 most out → Planted W B2 t2 ds ds.length → Calls Try.prog 49 #[.pointer (some ⟨t2, 0, none⟩), .pointer (some ⟨gx, 0, none⟩)] W fun e w' => e = .returned (.tuple #[.int .i64 0, .int .i64 (er : Int)]) ∧ er ≠ 0 ∧ KS W w' ∧ Below B W w' ∧ ∃ q, RdAt w' B gr gx s q most out) := fun W h1 h2 => rnext_err B gr gx s p1 most out er B2 t2 ds W h1 hs hp1b h2 hD15 hDl hDf hx
      clear hx
      go_wp2
      go_region_held (fun w' => w'.cell? ⟨gc, 1, none⟩ = some (.pointer (some ⟨t2, 0, none⟩)) ∧ w'.cell? ⟨gr, 0, none⟩ = some (.pointer (some ⟨gx, 0, none⟩))) (first | exact ⟨g1b, r1a⟩ | assumption)
        (first | (go_at_call 49; refine (HX.out _ (HR1.out.drewN 1) (HP1.out.ks (ks_drewN _ 1))).mono ?_; rintro e w2 ⟨rfl, her, hK2, hB2, q2, hR2⟩; have hS2 : w2.cell? ⟨gc, 1, none⟩ = some (.pointer (some ⟨t2, 0, none⟩)) ∧ w2.cell? ⟨gr, 0, none⟩ = some (.pointer (some ⟨gx, 0, none⟩)) := ⟨(code_cell HG1.out ((ks_drewN _ 1).trans hK2)).2.2, hR2.cell0⟩))
      have heri : ((er : Int) != 0) = true := by simpa using her
      have hN2 := hK2.2 _ _ _ _ HN1.out (by decide) (by decide)
      have kk := HK1.out.trans ((ks_drewN _ 1).trans hK2)
      have bb := HB1.out.trans ((Below.refl _ w1).drew.trans hB2)
      clear hK2 hB2 hR2 hS2 HN1 HG1 HP1 HK1 HB1 HR1 HX g1b r1a
      obtain ⟨z0, z1, z2, y0, y1, y2⟩ := tok_cell hN2
      have HO : Hid _ := tok_outE hN2 kk bb hB0 zeroT
      clear hN2
      go_wp2
      exact bodyPost_ret (v := .tuple #[.agg #[.int .u8 0, .int .i64 0, .int .i64 0], .int .i64 (er : Int)]) (by simp [results, Try.results50, go_sem, *]) rfl (.inr ⟨_, zeroT, h.symm, her, rfl, HO.out.1, HO.out.2⟩)
    | ok r2 =>
      obtain ⟨d, p2⟩ := r2
      rw [hx] at h
      simp only at h
      obtain ⟨hdl, hp2a, hp2b⟩ := nxF_ok hD15 hp1b hx
      have HX : Hid (∀ W, RdAt W B gr gx s p1 most out → Planted W B2 t2 ds ds.length → Calls Try.prog 49 #[.pointer (some ⟨t2, 0, none⟩), .pointer (some ⟨gx, 0, none⟩)] W fun e w' => e = .returned (.tuple #[.int .i64 (d : Int), .int .i64 0]) ∧ RdAt w' B gr gx s p2 most out ∧ KS W w' ∧ Below B W w') := fun W h1 h2 => rnext_ok B gr gx s p1 most out d p2 B2 t2 ds W h1 hs hp1b h2 hD15 hDl hDf hx
      clear hx
      go_wp2
      go_region_held (fun w' => w'.cell? ⟨gc, 1, none⟩ = some (.pointer (some ⟨t2, 0, none⟩)) ∧ w'.cell? ⟨gr, 0, none⟩ = some (.pointer (some ⟨gx, 0, none⟩))) (first | exact ⟨g1b, r1a⟩ | assumption)
        (first | (go_at_call 49; refine (HX.out _ (HR1.out.drewN 1) (HP1.out.ks (ks_drewN _ 1))).mono ?_; rintro e w2 ⟨rfl, hR2, hK2, hB2⟩; have hS2 : w2.cell? ⟨gc, 1, none⟩ = some (.pointer (some ⟨t2, 0, none⟩)) ∧ w2.cell? ⟨gr, 0, none⟩ = some (.pointer (some ⟨gx, 0, none⟩)) := ⟨(code_cell HG1.out ((ks_drewN _ 1).trans hK2)).2.2, hR2.cell0⟩))
      have HN2 : Hid (w2.heap[w.heap.size]? = some (.cells #[.int .u8 0, .int .i64 0, .int .i64 0] 43 (0, 0))) := hK2.2 _ _ _ _ HN1.out (by decide) (by decide)
      have HK2 : Hid (KS w w2) := HK1.out.trans ((ks_drewN _ 1).trans hK2)
      have HB2 : Hid (Below B w w2) := HB1.out.trans ((Below.refl _ w1).drew.trans hB2)
      have HR2 : Hid (RdAt w2 B gr gx s p2 most out) := hR2
      clear hK2 hB2 hR2 hS2 HN1 HG1 HP1 HK1 HB1 HR1 HX g1b r1a
      cases hz2 : szE (bF8 s) (8 * s.size) p2 d true with
      | error er =>
        rw [hz2] at h
        simp only at h
        have HZ : Hid (Calls _ _ _ _ _) := rsize_err B gr gx s p2 most out d er true _ HR2.out hs hp2b hz2
        have her : er ≠ 0 := by
          rcases szE_err hz2 with ⟨_, rfl⟩ | ⟨_, h2⟩
          · decide
          · rw [(tkF_err h2).2]; decide
        have heri : ((er : Int) != 0) = true := by simpa using her
        clear hz2
        go_wp2_with fail
        refine (Hid.out HZ : Calls _ _ _ _ _).mono ?_
        rintro e w3 ⟨v3, rfl, hK3, hB3⟩
        have hN3 := hK3.2 _ _ _ _ HN2.out (by decide) (by decide)
        have kk := HK2.out.trans hK3
        have bb := HB2.out.trans hB3
        clear HZ hK3 hB3 HN2 HK2 HB2 HR2
        obtain ⟨z0, z1, z2, y0, y1, y2⟩ := tok_cell hN3
        have HO : Hid _ := tok_outE hN3 kk bb hB0 zeroT
        clear hN3
        go_wp2
        exact bodyPost_ret (v := .tuple #[.agg #[.int .u8 0, .int .i64 0, .int .i64 0], .int .i64 (er : Int)]) (by simp [results, Try.results50, go_sem, *]) rfl (.inr ⟨_, zeroT, h.symm, her, rfl, HO.out.1, HO.out.2⟩)
      | ok r3 =>
        obtain ⟨dist, p3⟩ := r3
        rw [hz2] at h
        simp only at h
        obtain ⟨hsz3, hp3a, hp3b⟩ := szE_pos hz2 hp2b
        have HZ : Hid (Calls _ _ _ _ _) := rsize_ok B gr gx s p2 most out d dist p3 true _ HR2.out hs hz2
        clear hz2
        go_wp2_with fail
        refine (Hid.out HZ : Calls _ _ _ _ _).mono ?_
        rintro e w3 ⟨rfl, hR3, hK3, hB3⟩
        have hN3 := hK3.2 _ _ _ _ HN2.out (by decide) (by decide)
        have c2 : w3.cell? ⟨gr, 2, none⟩ = some (.int .i64 (out : Int)) := by
          obtain ⟨_, _, _, fp, h4, _⟩ := hR3
          rw [cell_of_row _ _ _ _ _ _ h4]; rfl
        have kk := HK2.out.trans hK3
        have bb := HB2.out.trans hB3
        have HR3 : Hid (RdAt w3 B gr gx s p3 most out) := hR3
        clear HZ hK3 hB3 hR3 HN2 HK2 HB2 HR2
        by_cases hdo : out < dist
        · rw [if_pos hdo] at h
          have hdi : (out : Int) < (dist : Int) := by omega
          clear HR3
          obtain ⟨z0, z1, z2, y0, y1, y2⟩ := tok_cell hN3
          have HO : Hid _ := tok_outE hN3 kk bb hB0 zeroT
          clear hN3
          go_wp2
          exact bodyPost_ret (v := .tuple #[.agg #[.int .u8 0, .int .i64 0, .int .i64 0], .int .i64 3]) (by simp [results, Try.results50, go_sem, *]) rfl (.inr ⟨_, zeroT, h.symm, by decide, rfl, HO.out.1, HO.out.2⟩)
        · rw [if_neg hdo] at h
          have hdi : ¬ (out : Int) < (dist : Int) := by omega
          by_cases hmo : most < out + size
          · rw [if_pos hmo] at h
            have HGR : Hid (Calls _ _ _ _ _) := grow_err B gr gx s p3 most out size w3 HR3.out (by omega) (by omega) (by omega) hmo
            go_wp2_with fail
            refine (Hid.out HGR : Calls _ _ _ _ _).mono ?_
            rintro e w4 ⟨rfl, hK4, hB4⟩
            have hN4 := hK4.2 _ _ _ _ hN3 (by decide) (by decide)
            obtain ⟨z0, z1, z2, y0, y1, y2⟩ := tok_cell hN4
            have HO : Hid _ := tok_outE hN4 (kk.trans hK4) (bb.trans hB4) hB0 ⟨0, (size : Int), (dist : Int)⟩
            clear hN4 hN3 HGR hK4 hB4 c2 HR3
            go_wp2
            exact bodyPost_ret (v := .tuple #[.agg #[.int .u8 0, .int .i64 (size : Int), .int .i64 (dist : Int)], .int .i64 2]) (by simp [results, Try.results50, go_sem, *]) rfl (.inr ⟨_, ⟨0, (size : Int), (dist : Int)⟩, h.symm, by decide, rfl, HO.out.1, HO.out.2⟩)
          · rw [if_neg hmo] at h
            have HGR : Hid (Calls _ _ _ _ _) := grow_ok B gr gx s p3 most out size w3 HR3.out (by omega) (by omega) (by omega) (by omega)
            go_wp2_with fail
            refine (Hid.out HGR : Calls _ _ _ _ _).mono ?_
            rintro e w4 ⟨rfl, hR4, hK4, hB4⟩
            have hN4 := hK4.2 _ _ _ _ hN3 (by decide) (by decide)
            obtain ⟨z0, z1, z2, y0, y1, y2⟩ := tok_cell hN4
            have HO : Hid _ := tok_out hR4 hN4 (kk.trans hK4) (bb.trans hB4) hB0 ⟨0, (size : Int), (dist : Int)⟩
            clear hN4 hN3 HGR hK4 hB4 hR4 c2 HR3
            go_wp2
            exact bodyPost_ret (v := .tuple #[.agg #[.int .u8 0, .int .i64 (size : Int), .int .i64 (dist : Int)], .int .i64 0]) (by simp [results, Try.results50, go_sem, *]) rfl (.inl ⟨_, _, _, h.symm, rfl, HO.out.1, HO.out.2.1, HO.out.2.2⟩)
end Go.Proofs.Ythkppipdflmekaa
