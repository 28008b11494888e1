/- Signs: deflate's numberOf, signOf. -/
import Derived.Test.YthkppipdflmekaaGreatQDPrt
import Derived.Test.YthkppipdflmekaaGreatQInfS
import Derived.Test.YthkppipdflmekaaGreatQDynE
set_option maxRecDepth 100000
set_option maxHeartbeats 2000000
namespace Go.Proofs.YthkppipdflmekaaGreat
open Go.RowKit
set_option linter.unusedVariables false
set_option linter.unusedSimpArgs false
theorem qzf (x : Nat) (far : Bool) (i : Nat) (hi : i < (if far then 30 else 29)) (h1 : ∀ j, j ≤ i → (szF j far).1 ≤ x) (h2 : (szF (i + 1) far).1 = 0 ∨ x < (szF (i + 1) far).1) (hmono : ∀ j k, j ≤ k → k < (if far then 30 else 29) → (szF j far).1 ≤ (szF k far).1) (hpos : ∀ j, j < (if far then 30 else 29) → 0 < (szF j far).1) : noF x far = i := by
 unfold noF
 have key : ∀ K, K ≤ (if far then 30 else 29) → i < K → qi1 x far K = i := by
  intro K
  induction K with
  | zero => intro _ h; omega
  | succ K ih =>
   intro hK hiK
   rw [qi1]
   by_cases e : K = i
   · subst e; rw [if_pos (h1 K (Nat.le_refl _))]
   · have hlt : x < (szF K far).1 := by
       rcases h2 with h2 | h2
       · have := hpos (i + 1) (by omega); omega
       · have := hmono (i + 1) K (by omega) (by omega); omega
     rw [if_neg (by omega)]
     exact ih (by omega) (by omega)
 exact key _ (Nat.le_refl _) hi
theorem qx9 (far : Bool) : ∀ j k, j ≤ k → k < (if far then 30 else 29) → (szF j far).1 ≤ (szF k far).1 := by
 cases far
 · have key : ∀ k : Fin 29, ∀ j : Fin 29, j.val ≤ k.val → (szF j.val false).1 ≤ (szF k.val false).1 := by decide +kernel
   intro j k h1 h2
   exact key ⟨k, h2⟩ ⟨j, Nat.lt_of_le_of_lt h1 h2⟩ h1
 · have key : ∀ k : Fin 30, ∀ j : Fin 30, j.val ≤ k.val → (szF j.val true).1 ≤ (szF k.val true).1 := by decide +kernel
   intro j k h1 h2
   exact key ⟨k, h2⟩ ⟨j, Nat.lt_of_le_of_lt h1 h2⟩ h1
theorem qx7 (far : Bool) : ∀ j, j < (if far then 30 else 29) → 0 < (szF j far).1 := by
 cases far
 · have key : ∀ k : Fin 29, 0 < (szF k.val false).1 := by decide +kernel
   intro j h; exact key ⟨j, h⟩
 · have key : ∀ k : Fin 30, 0 < (szF k.val true).1 := by decide +kernel
   intro j h; exact key ⟨j, h⟩
theorem q1s (far : Bool) : (szF (if far then 30 else 29) far).1 = 0 := by cases far <;> decide +kernel
theorem qg7 (x : Nat) (far : Bool) (w : World) (h0 : (szF 0 far).1 ≤ x) (hx : x ≤ 100000) :
    Calls Tryz.prog 75 #[.int .i64 (x : Int), .bool far] w fun e w' => e = .returned (.tuple #[.int .i64 (noF x far : Int), pv ⟨x - (szF (noF x far) far).1, (szF (noF x far) far).2, false⟩]) ∧ Below w.heap.size w w' := by
 have HB : Hid (∀ c, Below w.heap.size w (w.alloc (.cells c 119))) := fun c => (Below.refl _ w).alloc (Nat.le_refl _) _
 go_enter Tryz.func75, Tryz.ntmps75
 go_wp2
 have HN : Hid ((w.alloc (.cells #[.int .u32 0, .int .i64 0, .bool false] 119)).heap[w.heap.size]? = some (.cells #[.int .u32 0, .int .i64 0, .bool false] 119 (0, 0))) := heap_alloc_new w _
 have HB1 : Hid (Below w.heap.size w (w.alloc (.cells #[.int .u32 0, .int .i64 0, .bool false] 119))) := HB.out _
 generalize World.alloc w _ = w1 at *
 clear HB
 go_loop [6] (fun v => ∃ i : Nat, i < (if far then 30 else 29) ∧ v = .int .i64 (i : Int) ∧ ∀ j, j ≤ i → (szF j far).1 ≤ x) (fun v => 30 - (intOf v).toNat)
 case atStart => exact ⟨0, by cases far <;> decide, rfl, fun j hj => by obtain rfl : j = 0 := by omega
                                                                        exact h0⟩
 case round =>
  obtain ⟨i, hi, rfl, hle⟩ := hrel
  have hi30 : i < 30 := by cases far <;> simp at hi <;> omega
  have HZ1 : Hid (∀ W, Calls Tryz.prog 94 #[.int .i64 ((i : Int) + 1), .bool far] W fun e w' => e = .returned (.tuple #[.int .i64 ((szF (i + 1) far).1 : Int), .int .i64 ((szF (i + 1) far).2 : Int)]) ∧ w' = W) := fun W => by
   have := qhk (i + 1) far W
   rw [show ((i + 1 : Nat) : Int) = (i : Int) + 1 by omega] at this
   exact this
  have HSTOP : Hid (((szF (i + 1) far).1 = 0 ∨ x < (szF (i + 1) far).1) → noF x far = i) := fun h => qzf x far i hi hle h (qx9 far) (qx7 far)
  have HGO : Hid (¬ ((szF (i + 1) far).1 = 0 ∨ x < (szF (i + 1) far).1) → i + 1 < (if far then 30 else 29) ∧ ∀ j, j ≤ i + 1 → (szF j far).1 ≤ x) := fun h => by
   constructor
   · by_cases q : i + 1 < (if far then 30 else 29)
     · exact q
     · exfalso
       have e : i + 1 = (if far then 30 else 29) := by omega
       apply h; left; rw [e]; exact q1s far
   · intro j hj
     by_cases e : j = i + 1
     · subst e; omega
     · exact hle j (by omega)
  have hb1 := (qd8 far (i + 1)).1
  generalize szF (i + 1) far = S1 at *
  obtain ⟨n1, m1⟩ := S1
  simp only at hb1 HSTOP HGO HZ1
  have HLE : Hid ((szF i far).1 ≤ x) := hle i (Nat.le_refl _)
  clear hle
  go_wp2_with fail
  refine (HZ1.out _).mono ?_
  rintro e w2 ⟨rfl, hw2⟩
  obtain rfl := hw2.symm
  by_cases hst : n1 = 0 ∨ x < n1
  · have HNO : Hid (noF x far = i) := HSTOP.out hst
    have hsz := qhk i far w1
    have hle2 := HLE.out
    have hc13 := (qd8 far i).2
    generalize hn0 : (szF i far).1 = n0 at *
    generalize hm0 : (szF i far).2 = m0 at *
    obtain ⟨d, hd⟩ : ∃ d : Nat, x - n0 = d := ⟨_, rfl⟩
    have hdi : (x : Int) - (n0 : Int) = (d : Int) := by omega
    have HPV : Hid (pv ⟨x - (szF (noF x far) far).1, (szF (noF x far) far).2, false⟩ = pv ⟨d, m0, false⟩) := by unfold Hid; rw [HNO.out, hn0, hm0, hd]
    have HSZ : Hid _ := hsz
    have hNM : Hid (∀ W, Calls Tryz.prog 54 #[.int .i64 (d : Int), .int .i64 (m0 : Int)] W fun e w' => e = .returned (pv ⟨d, m0, false⟩) ∧ Below W.heap.size W w') := fun W => qcf d m0 W (by omega)
    have hcase : n1 = 0 ∨ (¬ n1 = 0 ∧ x < n1) := by omega
    clear hsz HSTOP HGO HZ1 hd hn0 hm0 HLE
    have hsub : IntKind.i64.wrap ((x : Int) - (n0 : Int)) = (d : Int) := by rw [hdi, IntKind.wrap_i64]; omega
    have hwl : w.heap.size < w1.heap.size := (Array.getElem?_eq_some_iff.1 HN.out).1
    rcases hcase with rfl | ⟨hn1, hxn⟩
    all_goals
     try (have hn1i : ¬ (n1 : Int) = 0 := by omega)
     try (have hxni : (x : Int) < (n1 : Int) := by omega)
     go_wp2_with fail
     refine (Hid.out HSZ : Calls _ _ _ _ _).mono ?_
     rintro e w3 ⟨rfl, hw3⟩
     obtain rfl := hw3.symm
     go_wp2_with fail
     refine (hNM.out _).mono ?_
     rintro e w4 ⟨rfl, hb4⟩
     have hN4 : w4.heap[w.heap.size]? = _ := (hb4.block _ hwl).trans HN.out
     have HB4 : Hid _ := HB1.out.trans (hb4.mono HB1.out.size)
     have c0 : w4.cell? ⟨w.heap.size, 0, none⟩ = some (.int .u32 0) := by rw [cell_of_row _ _ _ _ _ _ hN4]; rfl
     have c1 : w4.cell? ⟨w.heap.size, 1, none⟩ = some (.int .i64 0) := by rw [cell_of_row _ _ _ _ _ _ hN4]; rfl
     have c2 : w4.cell? ⟨w.heap.size, 2, none⟩ = some (.bool false) := by rw [cell_of_row _ _ _ _ _ _ hN4]; rfl
     have f0 : w4.frozen? ⟨w.heap.size, 0, none⟩ = false := frozen_of_row _ _ _ _ _ hN4
     have f1 : w4.frozen? ⟨w.heap.size, 1, none⟩ = false := frozen_of_row _ _ _ _ _ hN4
     have f2 : w4.frozen? ⟨w.heap.size, 2, none⟩ = false := frozen_of_row _ _ _ _ _ hN4
     clear hN4 hb4
     simp only [pv]
     go_wp2
     refine bodyPost_ret (v := .tuple #[.int .i64 (i : Int), .agg #[.int .u32 (d : Int), .int .i64 (m0 : Int), .bool false]]) (by simp [results, Tryz.results75, go_sem, *]) rfl ⟨by rw [HPV.out, HNO.out]; rfl, ((HB4.out.setCell (p := ⟨w.heap.size, 0, none⟩) (Nat.le_refl _) _).setCell (p := ⟨w.heap.size, 1, none⟩) (Nat.le_refl _) _).setCell (p := ⟨w.heap.size, 2, none⟩) (Nat.le_refl _) _⟩
  · obtain ⟨g1, g2⟩ := HGO.out hst
    have hn1 : ¬ (n1 : Int) = 0 := by omega
    have hx1 : ¬ (x : Int) < (n1 : Int) := by omega
    have hn2 : ¬ n1 = 0 := by omega
    have hx2 : ¬ x < n1 := by omega
    clear HSTOP HGO HZ1 hst
    go_wp2
    go_round
    case rel => exact ⟨i + 1, g1, by go_num, g2⟩
    case measure => simp [intOf]; omega
structure Sgn where
 sym : Nat
 more : Prt
 rep : Bool
 far : Nat
 fmore : Prt
def sgC (s : Sgn) : List Value := [.int .i64 (s.sym : Int), .int .u32 (s.more.b : Int), .int .i64 (s.more.c : Int), .bool s.more.code, .bool s.rep, .int .i64 (s.far : Int), .int .u32 (s.fmore.b : Int), .int .i64 (s.fmore.c : Int), .bool s.fmore.code]
def sgV (s : Sgn) : Value := .agg (sgC s).toArray
def prt0 : Prt := ⟨0, 0, false⟩
def szP (x : Nat) (far : Bool) : Prt := ⟨x - (szF (noF x far) far).1, (szF (noF x far) far).2, false⟩
def sgT (t : Tok) : Sgn := if t.l = 0 then ⟨t.b, prt0, false, 0, prt0⟩ else ⟨257 + noF t.l.toNat false, szP t.l.toNat false, true, noF t.d.toNat true, szP t.d.toNat true⟩
def sg0 : Array Value := #[.int .i64 0, .int .u32 0, .int .i64 0, .bool false, .bool false, .int .i64 0, .int .u32 0, .int .i64 0, .bool false]
theorem qs4 (b : Nat) (w : World) (hb : b < 256) :
    Calls Tryz.prog 46 #[.agg #[.int .u8 (b : Int), .int .i64 0, .int .i64 0]] w fun e w' => e = .returned (sgV ⟨b, prt0, false, 0, prt0⟩) ∧ Below w.heap.size w w' := by
 have HB : Hid (∀ a c, Below w.heap.size w ((w.alloc a).alloc c)) := fun a c => ((Below.refl _ w).alloc (Nat.le_refl _) _).alloc (by simp) _
 go_enter Tryz.func46, Tryz.ntmps46
 go_wp2
 refine bodyPost_ret (v := sgV ⟨b, prt0, false, 0, prt0⟩) (by simp [results, Tryz.results46, go_sem, sgV, sgC, prt0]) rfl ⟨rfl, HB.out _ _⟩
def sg9 (a : Int) (b1 m1 : Nat) (k1 : Bool) (nd b2 m2 : Nat) (k2 : Bool) : Array Value := #[.int .i64 a, .int .u32 (b1 : Int), .int .i64 (m1 : Int), .bool k1, .bool true, .int .i64 (nd : Int), .int .u32 (b2 : Int), .int .i64 (m2 : Int), .bool k2]
theorem q15 (a : Int) (b1 m1 : Nat) (k1 : Bool) (nd b2 m2 : Nat) (k2 : Bool) : (sg9 a b1 m1 k1 nd b2 m2 k2).all (·.oneCell') = true := by
 rw [Array.all_eq_true']
 intro v hv
 simp [sg9] at hv
 rcases hv with rfl | rfl | rfl | rfl | rfl | rfl | rfl | rfl | rfl <;> rfl
theorem qs3 (l d : Nat) (w : World) (h1 : 3 ≤ l) (h2 : l ≤ 258) (h3 : 1 ≤ d) (h4 : d ≤ 32768) :
    Calls Tryz.prog 46 #[.agg #[.int .u8 0, .int .i64 (l : Int), .int .i64 (d : Int)]] w fun e w' => e = .returned (sgV ⟨257 + noF l false, szP l false, true, noF d true, szP d true⟩) ∧ Below w.heap.size w w' := by
 have HN1 : Hid (∀ W, Calls Tryz.prog 75 #[.int .i64 (l : Int), .bool false] W fun e w' => e = .returned (.tuple #[.int .i64 (noF l false : Int), pv (szP l false)]) ∧ Below W.heap.size W w') := fun W => qg7 l false W (by show 3 ≤ l; exact h1) (by omega)
 have HN2 : Hid (∀ W, Calls Tryz.prog 75 #[.int .i64 (d : Int), .bool true] W fun e w' => e = .returned (.tuple #[.int .i64 (noF d true : Int), pv (szP d true)]) ∧ Below W.heap.size W w') := fun W => qg7 d true W (by show 1 ≤ d; exact h3) (by omega)
 have hn29 := (qhr h1 h2).1
 have hl0 : ¬ (l : Int) = 0 := by omega
 generalize noF l false = nl at *
 generalize noF d true = nd at *
 generalize szP l false = P1 at *
 generalize szP d true = P2 at *
 obtain ⟨b1, m1, k1⟩ := P1
 obtain ⟨b2, m2, k2⟩ := P2
 simp only [pv] at HN1 HN2
 go_enter Tryz.func46, Tryz.ntmps46
 go_wp2_with fail
 have HW : Hid (∀ a c : Obj, Below w.heap.size w ((w.alloc a).alloc c) ∧ ((w.alloc a).alloc c).heap[w.heap.size]? = some a ∧ ((w.alloc a).alloc c).heap[w.heap.size + 1]? = some c) := fun a c => ⟨((Below.refl _ w).alloc (Nat.le_refl _) _).alloc (by simp) _, heap_alloc2_old w _ _, heap_alloc2_new w _ _⟩
 obtain ⟨q1, q2, q3⟩ := HW.out (.cells #[.int .u8 0, .int .i64 (l : Int), .int .i64 (d : Int)] 95) (.cells sg0 121)
 have hlt0 : w.heap.size + 1 < ((w.alloc (.cells #[.int .u8 0, .int .i64 (l : Int), .int .i64 (d : Int)] 95)).alloc (.cells sg0 121)).heap.size := (Array.getElem?_eq_some_iff.1 q3).1
 have q2' := q2
 clear HW
 refine (HN1.out _).mono ?_
 rintro e w2 ⟨rfl, hb2⟩
 change Below ((w.alloc (.cells #[.int .u8 0, .int .i64 (l : Int), .int .i64 (d : Int)] 95)).alloc (.cells sg0 121)).heap.size ((w.alloc (.cells #[.int .u8 0, .int .i64 (l : Int), .int .i64 (d : Int)] 95)).alloc (.cells sg0 121)) w2 at hb2
 have t2 := (hb2.block _ (by omega)).trans q2
 have s2 := (hb2.block _ hlt0).trans q3
 have hB2 := q1.trans (hb2.mono q1.size)
 have hsz2 : w.heap.size + 1 < w2.heap.size := (Array.getElem?_eq_some_iff.1 s2).1
 have hw2 : w.heap.size < w2.heap.size := by omega
 have ct3 : ∀ o, (w2.alloc o).cell? ⟨w.heap.size, 2, none⟩ = some (.int .i64 (d : Int)) := fun o => by rw [World.cell?_alloc_lt _ _ _ hw2, cell_of_row _ _ _ _ _ _ t2]; rfl
 clear q1 q2 q2' q3 hb2 HN1 hlt0
 have ct2 : w2.cell? ⟨w.heap.size, 2, none⟩ = some (.int .i64 (d : Int)) := by rw [cell_of_row _ _ _ _ _ _ t2]; rfl
 go_wp2_with fail
 have HW3 : Hid (∀ c : Obj, Below w2.heap.size w2 (w2.alloc c) ∧ (w2.alloc c).heap[w2.heap.size]? = some c) := fun c => ⟨(Below.refl _ w2).alloc (Nat.le_refl _) _, heap_alloc_new w2 _⟩
 obtain ⟨r1, r2⟩ := HW3.out (.cells #[.int .u32 (b1 : Int), .int .i64 (m1 : Int), .bool k1] 119)
 clear HW3
 have hsz3 : w2.heap.size < (w2.alloc (.cells #[.int .u32 (b1 : Int), .int .i64 (m1 : Int), .bool k1] 119)).heap.size := (Array.getElem?_eq_some_iff.1 r2).1
 refine (HN2.out _).mono ?_
 rintro e w4 ⟨rfl, hb4⟩
 change Below (w2.alloc (.cells #[.int .u32 (b1 : Int), .int .i64 (m1 : Int), .bool k1] 119)).heap.size (w2.alloc (.cells #[.int .u32 (b1 : Int), .int .i64 (m1 : Int), .bool k1] 119)) w4 at hb4
 have p4 := (hb4.block _ hsz3).trans r2
 have hb24 : Below w2.heap.size w2 w4 := r1.trans (hb4.mono (by omega))
 have s4 := (hb24.block _ hsz2).trans s2
 have hB4 := hB2.trans (hb24.mono hB2.size)
 have hsz4 : w2.heap.size < w4.heap.size := (Array.getElem?_eq_some_iff.1 p4).1
 clear r1 r2 hb4 HN2 t2 s2 ct2 ct3 hB2 hb24
 have HB4 : Hid (Below w.heap.size w w4) := hB4
 have hz1 : (Tryz.prog.info? 119).map (·.size) = some 3 := by kernel_rfl
 have hz2 : (Tryz.prog.info? 121).map (·.size) = some 9 := by kernel_rfl
 have HZ1 : Hid _ := hz1
 have HZ2 : Hid _ := hz2
 obtain ⟨O5, hO5⟩ : ∃ O5 : Obj, O5 = .cells #[.int .u32 (b2 : Int), .int .i64 (m2 : Int), .bool k2] 119 := ⟨_, rfl⟩
 have P5 : Hid ((w4.alloc (.cells #[.int .u32 (b2 : Int), .int .i64 (m2 : Int), .bool k2] 119)).heap[w2.heap.size]? = some (.cells #[.int .u32 (b1 : Int), .int .i64 (m1 : Int), .bool k1] 119 (0, 0))) := by
  unfold Hid; rw [heap_alloc_old _ _ hsz4]; exact p4
 have S5 : Hid ((w4.alloc (.cells #[.int .u32 (b2 : Int), .int .i64 (m2 : Int), .bool k2] 119)).heap[w.heap.size + 1]? = some (.cells sg0 121 (0, 0))) := by
  unfold Hid; rw [heap_alloc_old _ _ (by omega)]; exact s4
 have N5 : Hid ((w4.alloc (.cells #[.int .u32 (b2 : Int), .int .i64 (m2 : Int), .bool k2] 119)).heap[w4.heap.size]? = some (.cells #[.int .u32 (b2 : Int), .int .i64 (m2 : Int), .bool k2] 119 (0, 0))) := heap_alloc_new w4 _
 clear hB4 p4 s4 hz1 hz2 hO5
 go_wp2_with (first | refine wpList_load_row rfl 119 _ rfl w2.heap.size rfl 119 _ (0, 0) _ P5.out Tryz.underlying119 rfl HZ1.out ?_ | refine wpList_load_row rfl 119 _ rfl w4.heap.size rfl 119 _ (0, 0) _ N5.out Tryz.underlying119 rfl HZ1.out ?_ | refine wpList_store_row rfl 121 _ _ rfl (w.heap.size + 1) (sg9 (257 + (nl : Int)) b1 m1 k1 nd b2 m2 k2) rfl rfl 121 sg0 S5.out HZ2.out rfl (q15 _ _ _ _ _ _ _ _) ?_)
 have HR : Hid _ := setRow_heap _ _ _ (sg9 (257 + (nl : Int)) b1 m1 k1 nd b2 m2 k2) _ _ S5.out
 have hv : Value.agg (sg9 (257 + (nl : Int)) b1 m1 k1 nd b2 m2 k2) = sgV ⟨257 + nl, ⟨b1, m1, k1⟩, true, nd, ⟨b2, m2, k2⟩⟩ := by
  unfold sgV sgC sg9
  simp
 exact bodyPost_ret (results_cell_row rfl _ _ (w.heap.size + 1) 121 (sg9 (257 + (nl : Int)) b1 m1 k1 nd b2 m2 k2) (0, 0) _ rfl HR.out Tryz.underlying121 rfl HZ2.out) rfl ⟨by rw [hv], below_setRow (HB4.out.alloc HB4.out.size _) (by omega) _⟩
theorem qs5 (t : Tok) (w : World) (hk : qbr t = true) (hb : t.b < 256) :
    Calls Tryz.prog 46 #[.agg #[.int .u8 (t.b : Int), .int .i64 t.l, .int .i64 t.d]] w fun e w' => e = .returned (sgV (sgT t)) ∧ Below w.heap.size w w' := by
 obtain ⟨tb, tl, td⟩ := t
 by_cases h0 : tl = 0
 · subst h0
   have hd0 : td = 0 := by rw [qe8 rfl] at hk; simpa using hk
   subst hd0
   have e : sgT ⟨tb, 0, 0⟩ = ⟨tb, prt0, false, 0, prt0⟩ := by unfold sgT; rw [if_pos rfl]
   rw [e]
   exact qs4 tb w hb
 · obtain ⟨hb0, h3, h258, h1, h32⟩ := qci h0 hk
   simp only at hb0 h3 h258 h1 h32
   subst hb0
   obtain ⟨l, rfl⟩ : ∃ n : Nat, tl = (n : Int) := ⟨tl.toNat, by omega⟩
   obtain ⟨d, rfl⟩ : ∃ n : Nat, td = (n : Int) := ⟨td.toNat, by omega⟩
   have e : sgT ⟨0, l, d⟩ = ⟨257 + noF l false, szP l false, true, noF d true, szP d true⟩ := by unfold sgT; rw [if_neg h0]; rfl
   rw [e]
   exact qs3 l d w (by omega) (by omega) (by omega) (by omega)
end Go.Proofs.YthkppipdflmekaaGreat
