/- Contracts of the document's number, wrong and symbol of layer 6. -/
import Derived.Test.YthkppipdflmekaaQRefX
import Derived.Test.YthkppipdflmekaaQInfI
import Derived.Test.YthkppipdflmekaaQRFix
import Derived.Test.YthkppipdflmekaaQInfErr
namespace Go.Proofs.Ythkppipdflmekaa
open Go.RowKit
set_option linter.unusedVariables false

/-- How far a stream has been read. -/
def sn (g N c p o m e : Nat) : Value := .agg #[.slice (some ⟨g, 0, none⟩) N c, .int .i64 (p : Int), .int .i64 (o : Int), .int .i64 (m : Int), .int .i64 (e : Int)]
theorem bel2 (w : World) (x y : Obj) : Below w.heap.size w ((w.alloc x).alloc y) := ((Below.refl _ w).alloc (Nat.le_refl _) _).alloc (by rw [World.size_alloc]; omega) _
set_option maxRecDepth 100000 in
set_option maxHeartbeats 1000000 in
theorem wrong_any (g N c p o m e : Nat) (is : Bool) (er : Nat) (w : World) :
    Calls Try.prog 20 #[sn g N c p o m e, .bool is, .int .i64 (er : Int)] w fun x w' => x = .returned (sn g N c p o m (if is = true ∧ e = 0 then er else e)) ∧ Below w.heap.size w w' := by
  unfold sn
  have HB : Hid (∀ x y, Below w.heap.size w ((w.alloc x).alloc y)) := bel2 w
  go_enter Try.func20, Try.ntmps20
  by_cases he : e = 0
  · subst he
    cases is
    · rw [if_neg (by simp)]
      go_wp2
      exact bodyPost_ret (v := .agg #[.slice (some ⟨g, 0, none⟩) N c, .int .i64 (p : Int), .int .i64 (o : Int), .int .i64 (m : Int), .int .i64 0]) (by simp [results, Try.results20, go_sem]) rfl ⟨rfl, HB.out _ _⟩
    · rw [if_pos ⟨rfl, rfl⟩]
      go_wp2
      exact bodyPost_ret (v := .agg #[.slice (some ⟨g, 0, none⟩) N c, .int .i64 (p : Int), .int .i64 (o : Int), .int .i64 (m : Int), .int .i64 (er : Int)]) (by simp [results, Try.results20, go_sem]) rfl ⟨rfl, HB.out _ _⟩
  · have hei : ((e : Int) == 0) = false := by simp; omega
    rw [if_neg (fun h => he h.2)]
    cases is
    · go_wp2
      exact bodyPost_ret (v := .agg #[.slice (some ⟨g, 0, none⟩) N c, .int .i64 (p : Int), .int .i64 (o : Int), .int .i64 (m : Int), .int .i64 (e : Int)]) (by simp [results, Try.results20, go_sem]) rfl ⟨rfl, HB.out _ _⟩
    · go_wp2
      exact bodyPost_ret (v := .agg #[.slice (some ⟨g, 0, none⟩) N c, .int .i64 (p : Int), .int .i64 (o : Int), .int .i64 (m : Int), .int .i64 (e : Int)]) (by simp [results, Try.results20, go_sem]) rfl ⟨rfl, HB.out _ _⟩
set_option maxRecDepth 100000 in
set_option maxHeartbeats 1000000 in
theorem rnum_err (g N c p o m e n : Nat) (w : World) (he : e ≠ 0) :
    Calls Try.prog 15 #[sn g N c p o m e, .int .i64 (n : Int)] w fun x w' => x = .returned (.tuple #[sn g N c p o m e, .int .i64 0]) ∧ Below w.heap.size w w' := by
  unfold sn
  have HB : Hid (∀ x y, Below w.heap.size w ((w.alloc x).alloc y)) := bel2 w
  have hei : ((e : Int) == 0) = false := by simp; omega
  have hej : ((e : Int) != 0) = true := by simp; omega
  go_enter Try.func15, Try.ntmps15
  go_wp2
  exact bodyPost_ret (v := .tuple #[.agg #[.slice (some ⟨g, 0, none⟩) N c, .int .i64 (p : Int), .int .i64 (o : Int), .int .i64 (m : Int), .int .i64 (e : Int)], .int .i64 0]) (by simp [results, Try.results15, go_sem]) rfl ⟨rfl, HB.out _ _⟩
set_option maxRecDepth 100000 in
set_option maxHeartbeats 1000000 in
theorem rnum_ends (g N c p o m n : Nat) (w : World) (h : N < p + n) (hN : N ≤ 1000000) (hp : p ≤ 2000000) (hn : n ≤ 32) :
    Calls Try.prog 15 #[sn g N c p o m 0, .int .i64 (n : Int)] w fun x w' => x = .returned (.tuple #[sn g N c p o m 6, .int .i64 0]) ∧ Below w.heap.size w w' := by
  unfold sn
  have HB : Hid (∀ x y, Below w.heap.size w ((w.alloc x).alloc y)) := bel2 w
  have hi : (N : Int) < (p : Int) + (n : Int) := by omega
  go_enter Try.func15, Try.ntmps15
  go_wp2
  exact bodyPost_ret (v := .tuple #[.agg #[.slice (some ⟨g, 0, none⟩) N c, .int .i64 (p : Int), .int .i64 (o : Int), .int .i64 (m : Int), .int .i64 6], .int .i64 0]) (by simp [results, Try.results15, go_sem]) rfl ⟨rfl, HB.out _ _⟩
theorem OB.alloc {w : World} {B : Nat} {v : Value} {L : List Bool} (h : OB w B v L) (x : Obj) : OB (w.alloc x) B v L := h.below ((Below.refl _ w).alloc (Nat.le_refl _) x)
set_option maxRecDepth 100000 in
set_option maxHeartbeats 1000000 in
theorem rnum_takes (g c p o m n B : Nat) (L : List Bool) (w : World) (hO : OB w B (.slice (some ⟨g, 0, none⟩) L.length c) L) (h : p + n ≤ L.length) (hN : L.length ≤ 1000000) (hn : n ≤ 32) :
    Calls Try.prog 15 #[sn g L.length c p o m 0, .int .i64 (n : Int)] w fun x w' => x = .returned (.tuple #[sn g L.length c (p + n) o m 0, .int .i64 (takeN (fun i => L.getD (p + i) false) n : Int)]) ∧ Below w.heap.size w w' := by
  unfold sn
  have HB : Hid (∀ x y, Below w.heap.size w ((w.alloc x).alloc y)) := bel2 w
  have hi : ¬ (L.length : Int) < (p : Int) + (n : Int) := by omega
  have HNM : Hid (∀ x y, Calls Try.prog 24 #[.slice (some ⟨g, 0, none⟩) L.length c, .int .i64 (p : Int), .int .i64 (n : Int), .bool false] ((w.alloc x).alloc y) fun e w' => e = .returned (.int .u32 (takeN (fun i => L.getD (p + i) false) n : Int)) ∧ w' = ((w.alloc x).alloc y)) := fun x y => number_low _ L B p n _ ((hO.alloc x).alloc y) hN (by omega) hn
  have ht : takeN (fun i => L.getD (p + i) false) n < 4294967296 := takeN_lt32 _ n hn
  generalize takeN (fun i => L.getD (p + i) false) n = T at *
  clear hO
  go_enter Try.func15, Try.ntmps15
  go_wp2_with fail
  refine (HNM.out _ _).mono ?_
  rintro e w1 ⟨rfl, rfl⟩
  go_wp2
  exact bodyPost_ret (v := .tuple #[.agg #[.slice (some ⟨g, 0, none⟩) L.length c, .int .i64 ((p : Int) + (n : Int)), .int .i64 (o : Int), .int .i64 (m : Int), .int .i64 0], .int .i64 (T : Int)]) (by simp [results, Try.results15, go_sem]) rfl ⟨rfl, HB.out _ _⟩
set_option maxRecDepth 100000 in
set_option maxHeartbeats 1000000 in
theorem rsym_err (g N c p o m e : Nat) (vi vc : Value) (w : World) (he : e ≠ 0) :
    Calls Try.prog 29 #[sn g N c p o m e, vi, vc] w fun x w' => x = .returned (.tuple #[sn g N c p o m e, .int .i64 0]) ∧ Below w.heap.size w w' := by
  unfold sn
  have HB : Hid (∀ x y, Below w.heap.size w ((w.alloc x).alloc y)) := bel2 w
  have hej : ((e : Int) != 0) = true := by simp; omega
  go_enter Try.func29, Try.ntmps29
  go_wp2
  exact bodyPost_ret (v := .tuple #[.agg #[.slice (some ⟨g, 0, none⟩) N c, .int .i64 (p : Int), .int .i64 (o : Int), .int .i64 (m : Int), .int .i64 (e : Int)], .int .i64 0]) (by simp [results, Try.results29, go_sem]) rfl ⟨rfl, HB.out _ _⟩
/-- What the document's symbol answers, held against nxF. -/
theorem UR.alloc {w : World} {v : Value} {n : Nat} {f : Nat → Nat} (h : UR w v n f) (x : Obj) : UR (w.alloc x) v n f := h.below ((Below.refl _ w).alloc (Nat.le_refl _) x)
set_option maxRecDepth 100000 in
set_option maxHeartbeats 1000000 in
theorem rsym_any (g c p o m B : Nat) (L : List Bool) (vi vc : Value) (ns : List Nat) (w : World) (hO : OB w B (.slice (some ⟨g, 0, none⟩) L.length c) L) (hI : IQ w vi (zz ns)) (hU : UR w vc (zz ns).length (cdOf ns)) (hf : fitE ns = true) (hN : L.length ≤ 1000000) (hp : p ≤ L.length) :
    Calls Try.prog 29 #[sn g L.length c p o m 0, vi, vc] w fun x w' => ((∃ t q, nxF ns (fun i => L.getD i false) L.length p = .ok (t, q) ∧ x = .returned (.tuple #[sn g L.length c q o m 0, .int .i64 (t : Int)])) ∨ (∃ er q, nxF ns (fun i => L.getD i false) L.length p = .error er ∧ er ≠ 0 ∧ q ≤ L.length + 16 ∧ x = .returned (.tuple #[sn g L.length c q o m er, .int .i64 0]))) ∧ Below w.heap.size w w' := by
  unfold sn
  obtain ⟨he, h15, h320, hfit⟩ := fitE_ok hf
  have HB : Hid (∀ x y, Below w.heap.size w ((w.alloc x).alloc y)) := bel2 w
  obtain ⟨j, y, er, hR, hX⟩ := nx_sound ns h15 (fun i => L.getD i false) L.length p hp
  have hj : j < 15 := by
    have := hR.1.1.lt h15
    omega
  have hR' : NextR (toN (zz ns)) (fun i => L.getD (p + i) false) (L.length - p) j y er := by rw [zz_toN]; exact hR
  have HNX : Hid (∀ x' y', Calls Try.prog 41 #[vi, vc, .slice (some ⟨g, 0, none⟩) L.length c, .int .i64 (p : Int)] ((w.alloc x').alloc y') fun e w' => e = .returned (.tuple #[.int .i64 y, .int .i64 ((j + 1 : Nat) : Int), .int .i64 er]) ∧ w' = ((w.alloc x').alloc y')) := fun x' y' => rnext_anyO vi vc _ (zz ns) L B p j y er _ (hI.below (bel2 w x' y')) (by rw [zz_toN]; exact (hU.alloc x').alloc y') ((hO.alloc x').alloc y') he hN hp hj hR'
  unfold nxOf at hX
  clear hI hU hO
  rcases nextR_kind hR with ⟨rfl, hjl, t, rfl, htl⟩ | ⟨rfl, hk⟩
  · rw [if_pos rfl, Int.toNat_natCast] at hX
    have HX : Hid (_ = _) := hX
    clear hX hR hR'
    go_enter Try.func29, Try.ntmps29
    go_wp2_with fail
    refine (HNX.out _ _).mono ?_
    rintro e w1 ⟨rfl, rfl⟩
    go_wp2
    exact bodyPost_ret (v := .tuple #[.agg #[.slice (some ⟨g, 0, none⟩) L.length c, .int .i64 ((p : Int) + ((j : Int) + 1)), .int .i64 (o : Int), .int .i64 (m : Int), .int .i64 0], .int .i64 (t : Int)]) (by simp [results, Try.results29, go_sem]) rfl ⟨.inl ⟨t, _, HX.out, by rw [show ((p + j + 1 : Nat) : Int) = (p : Int) + ((j : Int) + 1) by omega]; rfl⟩, HB.out _ _⟩
  · obtain ⟨er', rfl, her⟩ : ∃ e' : Nat, er = (e' : Int) ∧ (e' = 3 ∨ e' = 6) := by
      rcases hk with rfl | rfl
      · exact ⟨3, rfl, .inl rfl⟩
      · exact ⟨6, rfl, .inr rfl⟩
    rw [if_neg (by omega), Int.toNat_natCast] at hX
    have HX : Hid (_ = _) := hX
    have hjl := hR.1.2
    clear hX hR hR' hk
    go_enter Try.func29, Try.ntmps29
    go_wp2_with fail
    refine (HNX.out _ _).mono ?_
    rintro e w1 ⟨rfl, rfl⟩
    go_wp2
    exact bodyPost_ret (v := .tuple #[.agg #[.slice (some ⟨g, 0, none⟩) L.length c, .int .i64 ((p : Int) + ((j : Int) + 1)), .int .i64 (o : Int), .int .i64 (m : Int), .int .i64 (er' : Int)], .int .i64 0]) (by simp [results, Try.results29, go_sem]) rfl ⟨.inr ⟨er', p + j + 1, HX.out, by omega, by omega, by rw [show ((p + j + 1 : Nat) : Int) = (p : Int) + ((j : Int) + 1) by omega]⟩, HB.out _ _⟩
end Go.Proofs.Ythkppipdflmekaa
