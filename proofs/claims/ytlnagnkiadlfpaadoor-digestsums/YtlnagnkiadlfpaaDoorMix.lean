/- Contract of digest.mix: the words behind one block. -/
import Derived.Test.YtlnagnkiadlfpaaDoorSched
namespace Go.Proofs.YtlnagnkiadlfpaaDoor
open Go.RowKit
set_option linter.unusedVariables false

def z8 : Array Value := wl (List.replicate 8 0)
theorem Tryd.zero8 : (Tryd.prog.info? 42).map (fun i => (i.zero, i.size)) = some (some (.agg z8), 8) := by kernel_rfl
theorem Tryd.info8 : (Tryd.prog.info? 42).map (·.size) = some 8 := by kernel_rfl

/-- The roots lie in the first block, as the program's text lays them. -/
def Roots (w : World) : Prop := ∃ t fr, w.heap[0]? = some (.cells (wl rootsL) t fr)
theorem Roots.cell {w : World} (h : Roots w) {j : Nat} (hj : j < 64) : w.cell? ⟨0, j, none⟩ = some (.int .u32 (rootsL.getD j 0 : Int)) := by
  obtain ⟨t, fr, h⟩ := h
  rw [cell_of_row _ _ _ _ _ _ h, wl_at _ _ (by rw [roots_len]; exact hj)]
theorem Roots.pos {w : World} (h : Roots w) : 0 < w.heap.size := by
  obtain ⟨t, fr, h⟩ := h
  rcases Nat.lt_or_ge 0 w.heap.size with hl | hl
  · exact hl
  · rw [Array.getElem?_eq_none hl] at h; cases h
theorem Roots.below {w w' : World} (h : Roots w) (hb : Below w.heap.size w w') : Roots w' := by
  have hp := h.pos
  obtain ⟨t, fr, h⟩ := h
  exact ⟨t, fr, by rw [hb.block 0 hp]; exact h⟩
theorem not_u32' (n : Nat) (h : n < 4294967296) : bits BinOp.xor IntKind.u32 IntKind.u32.max (n : Int) = ((4294967295 - n : Nat) : Int) := by
  have e : IntKind.u32.max = ((4294967295 : Nat) : Int) := by decide
  rw [e, u32_xor_nat _ _ (by decide) h]
  congr 1
  apply Nat.eq_of_testBit_eq
  intro i
  rw [Nat.testBit_xor, show 4294967295 - n = 2 ^ 32 - (n + 1) by omega, Nat.testBit_two_pow_sub_succ (by omega), show 4294967295 = 2 ^ 32 - 1 by decide, Nat.testBit_two_pow_sub_one]
  by_cases hi : i < 32
  · simp [hi]
  · rw [Nat.testBit_lt_two_pow (Nat.lt_of_lt_of_le (show n < 2 ^ 32 by omega) (Nat.pow_le_pow_right (by decide) (by omega)))]; simp [hi]

/-- The blocks of the call: the words that came, the result's, a word for each round. -/
def MW (w : World) (s0 : S8) (L : List Nat) (gw : Nat) (wr : World) : Prop :=
  wr.heap[w.heap.size]? = some (.cells (wl s0.list) 42 (0, 0)) ∧ wr.heap[w.heap.size + 1]? = some (.cells z8 42 (0, 0)) ∧ wr.heap[gw]? = some (.cells (wl L) 62 (0, 0)) ∧ Roots wr ∧ Below w.heap.size w wr
theorem MW.drewN {w wr : World} {s0 : S8} {L : List Nat} {gw : Nat} (h : MW w s0 L gw wr) (n : Nat) : MW w s0 L gw (wr.drewN n) :=
  ⟨h.1, h.2.1, h.2.2.1, h.2.2.2.1, below_drewN h.2.2.2.2 n⟩
theorem MW.start {w w1 : World} {s0 : S8} {L : List Nat} {A B : Array Value} (hA : A = wl s0.list) (hB : B = z8) (hR : Roots w) (hb : Below ((w.alloc (.cells A 42)).alloc (.cells B 42)).heap.size ((w.alloc (.cells A 42)).alloc (.cells B 42)) w1) :
    MW w s0 L w1.heap.size ((w1.alloc (.cells z64 62)).setRow w1.heap.size (wl L)) := by
  subst hA; subst hB
  have hsz := hb.size
  rw [World.size_alloc, World.size_alloc] at hsz
  have h1 : w1.heap[w.heap.size]? = some (.cells (wl s0.list) 42 (0, 0)) := by
    rw [hb.block w.heap.size (by rw [World.size_alloc, World.size_alloc]; omega)]; exact heap_alloc2_old w _ _
  have h2 : w1.heap[w.heap.size + 1]? = some (.cells z8 42 (0, 0)) := by
    rw [hb.block (w.heap.size + 1) (by rw [World.size_alloc, World.size_alloc]; omega)]; exact heap_alloc2_new w _ _
  have hb0 : Below w.heap.size w w1 := (((Below.refl _ w).alloc (Nat.le_refl _) _).alloc (by simp) _).trans (hb.mono (by rw [World.size_alloc, World.size_alloc]; omega))
  have hb2 : Below w1.heap.size w1 ((w1.alloc (.cells z64 62)).setRow w1.heap.size (wl L)) := below_setRow ((Below.refl _ w1).alloc (Nat.le_refl _) _) (Nat.le_refl _) _
  refine ⟨?_, ?_, setRow_heap _ _ _ _ _ _ (heap_alloc_new _ _), (hR.below hb0).below hb2, hb0.trans (hb2.mono (by omega))⟩
  · rw [hb2.block _ (by omega)]; exact h1
  · rw [hb2.block _ (by omega)]; exact h2
theorem MW.st {w wr : World} {s0 : S8} {L : List Nat} {gw : Nat} (h : MW w s0 L gw wr) {j : Nat} (hj : j < 8) : wr.cell? ⟨w.heap.size, j, none⟩ = some (.int .u32 (s0.list.getD j 0 : Int)) := by
  rw [cell_of_row _ _ _ _ _ _ h.1, wl_at _ _ hj]
theorem MW.word {w wr : World} {s0 : S8} {L : List Nat} {gw : Nat} (h : MW w s0 L gw wr) {j : Nat} (hj : j < L.length) : wr.cell? ⟨gw, j, none⟩ = some (.int .u32 (L.getD j 0 : Int)) := by
  rw [cell_of_row _ _ _ _ _ _ h.2.2.1, wl_at _ _ hj]

set_option maxRecDepth 100000 in
set_option maxHeartbeats 2000000 in
theorem mix_any (s0 : S8) (s : ByteArray) (w : World) (h0 : s0.ok) (hs : s.size = 64) (hR : Roots w) :
    Calls Tryd.prog 29 #[.agg #[.int .u32 s0.a, .int .u32 s0.b, .int .u32 s0.c, .int .u32 s0.d, .int .u32 s0.e, .int .u32 s0.f, .int .u32 s0.g, .int .u32 s0.h], .string s] w fun e w' => e = .returned (.agg (wl (mixN s0 s.data.toList).list)) ∧ Below w.heap.size w w' := by
  obtain ⟨p1, p2, p3, p4, p5, p6, p7, p8⟩ := h0
  have HR : Hid (Roots w) := hR
  clear hR
  have hz := (zero_of_info Tryd.zero64).1
  go_enter Tryd.func29, Tryd.ntmps29
  go_wp2_with fail
  refine (schedule_any _ _ hs).mono ?_
  rintro e w1 ⟨rfl, hb1⟩
  have hM := MW.start (L := sched s.data.toList) (s0 := s0) rfl rfl HR.out hb1
  have hlen : (sched s.data.toList).length = 64 := by unfold sched; exact expand_len _ _
  have hsm : Small (sched s.data.toList) := by unfold sched; exact expand_small _ _
  have HSZ : Hid ((Tryd.prog.info? 62).map (·.size) = some (wl (sched s.data.toList)).size) := by unfold Hid; rw [wl_size, hlen]; exact Tryd.info64
  have HOL : Hid (z64.size = (wl (sched s.data.toList)).size) := by unfold Hid z64; rw [wl_size, wl_size, hlen]; simp
  have HON : Hid _ := wl_one (sched s.data.toList)
  have HMX : Hid (mixN s0 s.data.toList = s0.plus (rnds s0 (sched s.data.toList) 64)) := rfl
  have HM : Hid (MW _ _ _ _ _) := hM
  have HSM : Hid _ := hsm
  clear hb1 hM hsm HR hs
  generalize sched s.data.toList = L at *
  go_wp2_with (refine wpList_store_row rfl 62 _ _ rfl _ (wl L) rfl rfl 62 _ (heap_alloc_new _ _) HSZ.out HOL.out HON.out ?_)
  clear HSZ HOL HON hz
  generalize (w1.alloc (.cells z64 62)).setRow w1.heap.size (wl L) = W at *
  generalize w1.heap.size = gw at *
  have q0 := HM.out.st (j := 0) (by decide)
  have q1 := HM.out.st (j := 1) (by decide)
  have q2 := HM.out.st (j := 2) (by decide)
  have q3 := HM.out.st (j := 3) (by decide)
  have q4 := HM.out.st (j := 4) (by decide)
  have q5 := HM.out.st (j := 5) (by decide)
  have q6 := HM.out.st (j := 6) (by decide)
  have q7 := HM.out.st (j := 7) (by decide)
  simp only [S8.list, List.getD_cons_zero, List.getD_cons_succ] at q0 q1 q2 q3 q4 q5 q6 q7
  go_quiet (fail)
  clear q0 q1 q2 q3 q4 q5 q6 q7
  go_wp2
  go_loopw [6, 7, 8, 9, 10, 11, 12, 13, 35] (fun va vb vc vd ve vf vg vh i wr => ∃ k : Nat, k ≤ 64 ∧ i = .int .i64 (k : Int) ∧ va = .int .u32 ((rnds s0 L k).a : Int) ∧ vb = .int .u32 ((rnds s0 L k).b : Int) ∧ vc = .int .u32 ((rnds s0 L k).c : Int) ∧ vd = .int .u32 ((rnds s0 L k).d : Int) ∧ ve = .int .u32 ((rnds s0 L k).e : Int) ∧ vf = .int .u32 ((rnds s0 L k).f : Int) ∧ vg = .int .u32 ((rnds s0 L k).g : Int) ∧ vh = .int .u32 ((rnds s0 L k).h : Int) ∧ MW w s0 L gw wr) (fun _ _ _ _ _ _ _ _ i _ => 64 - (intOf i).toNat)
  case atStart => exact ⟨0, by omega, rfl, rfl, rfl, rfl, rfl, rfl, rfl, rfl, rfl, HM.out.drewN _⟩
  case round =>
    clear HM
    obtain ⟨k, hk, rfl, rfl, rfl, rfl, rfl, rfl, rfl, rfl, rfl, hM⟩ := hrel
    by_cases hlt : k < 64
    · have hok := rnds_ok L ⟨p1, p2, p3, p4, p5, p6, p7, p8⟩ k
      have HN : Hid (rnds s0 L (k + 1) = rnd (rnds s0 L k) (rootsL.getD k 0) (L.getD k 0)) := rfl
      have c1 := hM.word (j := k) (by omega)
      have c2 := hM.2.2.2.1.cell hlt
      have HM : Hid (MW _ _ _ _ _) := hM
      clear hM p1 p2 p3 p4 p5 p6 p7 p8
      generalize rnds s0 L k = S at *
      generalize rootsL.getD k 0 = R at *
      generalize L.getD k 0 = X at *
      obtain ⟨a, b, c, d, e', f, g, h⟩ := S
      obtain ⟨p1, p2, p3, p4, p5, p6, p7, p8⟩ := hok
      simp only at p1 p2 p3 p4 p5 p6 p7 p8 ⊢
      have x1 := u32_xor_nat (ror e' 6) (ror e' 11) (ror_lt _ _ p5) (ror_lt _ _ p5)
      have x2 : bits BinOp.xor IntKind.u32 ((ror e' 6 ^^^ ror e' 11 : Nat) : Int) (ror e' 25 : Int) = (bg1 e' : Int) := u32_xor_nat _ _ (xor_lt32 (ror_lt _ _ p5) (ror_lt _ _ p5)) (ror_lt _ _ p5)
      have s1 := wrap32_sum h (bg1 e')
      have y1 := u32_and_nat e' f p5 p6
      have n1 := not_u32' e' p5
      have y2 := u32_and_nat (4294967295 - e') g (by omega) p7
      have y3 : bits BinOp.xor IntKind.u32 ((e' &&& f : Nat) : Int) (((4294967295 - e') &&& g : Nat) : Int) = (cho e' f g : Int) := u32_xor_nat _ _ (and_lt32 p5) (and_lt32 (by omega))
      have s2 := wrap32_sum ((h + bg1 e') % 4294967296) (cho e' f g)
      have s3 := wrap32_sum (((h + bg1 e') % 4294967296 + cho e' f g) % 4294967296) R
      have s4 := wrap32_sum ((((h + bg1 e') % 4294967296 + cho e' f g) % 4294967296 + R) % 4294967296) X
      have HT : Hid (tof ⟨a, b, c, d, e', f, g, h⟩ R X = ((((h + bg1 e') % 4294967296 + cho e' f g) % 4294967296 + R) % 4294967296 + X) % 4294967296) := rfl
      rw [← HT.out] at s4
      have z1 := u32_xor_nat (ror a 2) (ror a 13) (ror_lt _ _ p1) (ror_lt _ _ p1)
      have z2 : bits BinOp.xor IntKind.u32 ((ror a 2 ^^^ ror a 13 : Nat) : Int) (ror a 22 : Int) = (bg0 a : Int) := u32_xor_nat _ _ (xor_lt32 (ror_lt _ _ p1) (ror_lt _ _ p1)) (ror_lt _ _ p1)
      have z3 := u32_and_nat a b p1 p2
      have z4 := u32_and_nat a c p1 p3
      have z5 := u32_and_nat b c p2 p3
      have z6 := u32_xor_nat (a &&& b) (a &&& c) (and_lt32 p1) (and_lt32 p1)
      have z7 : bits BinOp.xor IntKind.u32 (((a &&& b) ^^^ (a &&& c) : Nat) : Int) ((b &&& c : Nat) : Int) = (maj a b c : Int) := u32_xor_nat _ _ (xor_lt32 (and_lt32 p1) (and_lt32 p1)) (and_lt32 p2)
      have HU : Hid (uof ⟨a, b, c, d, e', f, g, h⟩ = (bg0 a + maj a b c) % 4294967296) := rfl
      have hsg : IntKind.u32.signed = false := rfl
      have i0 : (0 : Int) ≤ (k : Int) := by omega
      have i1 : (k : Int) < 64 := by omega
      have HRN : Hid (rnd ⟨a, b, c, d, e', f, g, h⟩ R X = ⟨(tof ⟨a, b, c, d, e', f, g, h⟩ R X + uof ⟨a, b, c, d, e', f, g, h⟩) % 4294967296, a, b, c, (d + tof ⟨a, b, c, d, e', f, g, h⟩ R X) % 4294967296, e', f, g⟩) := rfl
      generalize tof ⟨a, b, c, d, e', f, g, h⟩ R X = T at *
      generalize (((h + bg1 e') % 4294967296 + cho e' f g) % 4294967296 + R) % 4294967296 = T3 at *
      generalize ((h + bg1 e') % 4294967296 + cho e' f g) % 4294967296 = T2 at *
      generalize (h + bg1 e') % 4294967296 = T1 at *
      clear HT
      go_wp2
      go_quiet ((go_at_call 33; exact Calls.quiet_of_same (right_any _ _ _ p5 (by decide) (by decide))))
      go_wp2_with (go_at_call 33; refine (right_any _ _ _ p1 (by decide) (by decide)).mono ?_; rintro e w3 ⟨rfl, rfl⟩)
      have HF : Hid (rnds s0 L (k + 1) = ⟨(T + (bg0 a + maj a b c) % 4294967296) % 4294967296, a, b, c, (d + T) % 4294967296, e', f, g⟩) := by unfold Hid; rw [HN.out, HRN.out, HU.out]
      clear HN HRN HU s1 s2 s3 s4 x1 x2 y1 y2 y3 z1 z2 z3 z4 z5 z6 z7 n1 c1 c2
      go_roundw
      case rel => refine ⟨k + 1, by omega, by go_num, ?_, ?_, ?_, ?_, ?_, ?_, ?_, ?_, HM.out.drewN _⟩ <;> rw [HF.out] <;> simp
      case measure => simp [intOf]; omega
    · obtain rfl : k = 64 := by omega
      have hok := rnds_ok L ⟨p1, p2, p3, p4, p5, p6, p7, p8⟩ 64
      have q0 := hM.st (j := 0) (by decide)
      have q1 := hM.st (j := 1) (by decide)
      have q2 := hM.st (j := 2) (by decide)
      have q3 := hM.st (j := 3) (by decide)
      have q4 := hM.st (j := 4) (by decide)
      have q5 := hM.st (j := 5) (by decide)
      have q6 := hM.st (j := 6) (by decide)
      have q7 := hM.st (j := 7) (by decide)
      simp only [S8.list, List.getD_cons_zero, List.getD_cons_succ] at q0 q1 q2 q3 q4 q5 q6 q7
      have HM : Hid (MW _ _ _ _ _) := hM
      clear hM
      generalize rnds s0 L 64 = S at *
      obtain ⟨a, b, c, d, e', f, g, h⟩ := S
      simp only
      have HZ : Hid (wr.heap[w.heap.size + 1]? = some (.cells z8 42 (0, 0))) := HM.out.2.1
      have HB : Hid (Below w.heap.size w wr) := HM.out.2.2.2.2
      have HE : Hid ((#[.int .u32 (((s0.a : Int) + (a : Int)) % 4294967296), .int .u32 (((s0.b : Int) + (b : Int)) % 4294967296), .int .u32 (((s0.c : Int) + (c : Int)) % 4294967296), .int .u32 (((s0.d : Int) + (d : Int)) % 4294967296), .int .u32 (((s0.e : Int) + (e' : Int)) % 4294967296), .int .u32 (((s0.f : Int) + (f : Int)) % 4294967296), .int .u32 (((s0.g : Int) + (g : Int)) % 4294967296), .int .u32 (((s0.h : Int) + (h : Int)) % 4294967296)] : Array Value) = wl (mixN s0 s.data.toList).list) := by
        unfold Hid; rw [HMX.out]; simp [wl, S8.list, S8.plus]
      have hsz8 : (wl (mixN s0 s.data.toList).list).size = 8 := by rw [wl_size]; rfl
      have HI8 : Hid ((Tryd.prog.info? 42).map (·.size) = some (wl (mixN s0 s.data.toList).list).size) := by unfold Hid; rw [hsz8]; exact Tryd.info8
      have HO8 : Hid (z8.size = (wl (mixN s0 s.data.toList).list).size) := by unfold Hid z8; rw [hsz8, wl_size]; simp
      have H18 : Hid _ := wl_one (mixN s0 s.data.toList).list
      clear HM HMX hsz8 hok
      generalize hEq : wl (mixN s0 s.data.toList).list = E at *
      have HQ : Hid (_ = _) := hEq
      clear hEq
      go_wp2_with (first | refine wpList_store_row rfl 42 _ _ rfl (w.heap.size + 1) E rfl (congrArg Value.agg HE.out) 42 _ HZ.out HI8.out HO8.out H18.out ?_ | exact bodyPost_ret (results_cell_row rfl _ _ (w.heap.size + 1) 42 E (0, 0) _ rfl (setRow_heap _ _ _ _ _ _ HZ.out) Tryd.underlying42 rfl HI8.out) rfl ⟨by rw [HQ.out], below_setRow HB.out (Nat.le_succ _) _⟩)
end Go.Proofs.YtlnagnkiadlfpaaDoor
