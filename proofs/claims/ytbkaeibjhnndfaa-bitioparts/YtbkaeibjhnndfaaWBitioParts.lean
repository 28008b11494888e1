/- The walk of the law BitioParts: it returns true at every input. -/
import Derived.Test.YtbkaeibjhnndfaaAwake3
import Derived.Test.YtbkaeibjhnndfaaBPartsM
import Derived.Test.YtbkaeibjhnndfaaFew
import Derived.Deep.RegionHeld
namespace Go.Proofs.Ytbkaeibjhnndfaa
open Go.RowKit
attribute [local go_sem ↓] Go.wp_at_zero Go.wp_at_succ
set_option linter.unusedVariables false

theorem few_100 (s : ByteArray) (w : World) (hs : s.size ≤ 9223372036854775807) :
    Calls Try.prog 8 #[.string s, .int .i64 100] w fun e w' => e = .returned (.string (s.extract 0 100)) ∧ w' = w := few_any s 100 w (by decide) hs
theorem below_trans {a b c : World} (h : Below a.heap.size a b) (k : Below b.heap.size b c) : Below a.heap.size a c := h.trans (k.mono h.size)
theorem take_nat (g : Nat) (s : ByteArray) (p n : Nat) (w : World) (hS : SrcAt w g s p) (hs : s.size ≤ 140737488351232) (hp : p ≤ 4000000000000000000) (hn : n ≤ 32) :
    Calls Try.prog 13 #[.pointer (some ⟨g, 0, none⟩), .int .i64 (n : Int)] w fun e w' => e = .returned (.int .u32 (takeN (fun i => sbit s.data.toList (p + i)) n : Int)) ∧ SrcAt w' g s (p + n) ∧ w.grownBy w' (some g) := by
  have h := take_any g s p n w hS hs hp (by omega)
  rw [near_of n hn] at h; exact h
theorem turned_nat (g : Nat) (s : ByteArray) (p n : Nat) (w : World) (hS : SrcAt w g s p) (hs : s.size ≤ 140737488351232) (hp : p ≤ 4000000000000000000) (hn : n ≤ 32) :
    Calls Try.prog 14 #[.pointer (some ⟨g, 0, none⟩), .int .i64 (n : Int)] w fun e w' => e = .returned (.int .u32 (turnN (fun i => sbit s.data.toList (p + i)) n : Int)) ∧ SrcAt w' g s (p + n) ∧ w.grownBy w' (some g) := by
  have h := turned_any g s p n w hS hs hp (by omega)
  rw [near_of n hn] at h; exact h
set_option maxRecDepth 100000 in
set_option maxHeartbeats 4000000 in
theorem lawBitioParts_walk (s : ByteArray) (skip a b : Int) (w : World) (hs : s.size ≤ 140737488351232) (hk : -9223372036854775808 ≤ skip ∧ skip ≤ 9223372036854775807) (ha : -9223372036854775808 ≤ a ∧ a ≤ 9223372036854775807) (hb : -9223372036854775808 ≤ b ∧ b ≤ 9223372036854775807) :
    Calls Try.prog 6 #[.string s, .int .i64 skip, .int .i64 a, .int .i64 b] w fun e w' => e = .returned (.bool true) ∧ Below w.heap.size w w' := by
  have f1 := few_size s 100
  by_cases hin : 0 ≤ skip ∧ skip ≤ 900 ∧ 0 ≤ a ∧ 0 ≤ b ∧ a ≤ 32 ∧ b ≤ 32 - a
  · obtain ⟨h1, h2, h3, h4, h5, h6⟩ := hin
    obtain ⟨k, rfl⟩ := Int.eq_ofNat_of_zero_le h1
    obtain ⟨m, rfl⟩ := Int.eq_ofNat_of_zero_le h3
    obtain ⟨n, rfl⟩ := Int.eq_ofNat_of_zero_le h4
    go_enter Try.func6, Try.ntmps6
    go_wp2_with fail
    refine (few_100 _ _ (by omega)).mono ?_
    rintro e w0 ⟨rfl, rfl⟩
    have g1 : (s.extract 0 100).size ≤ 100 := by omega
    generalize s.extract 0 100 = S at *
    clear f1 hs hk ha hb
    go_wp2_with fail
    refine (srcOf_any S _).mono ?_
    rintro e w1 ⟨x1, rfl, hX1, hx1, hb1⟩
    go_wp2_with fail
    refine (srcOf_any S _).mono ?_
    rintro e w2 ⟨x2, rfl, hX2, hx2, hb2⟩
    go_wp2_with fail
    refine (srcOf_any S _).mono ?_
    rintro e w3 ⟨x3, rfl, hX3, hx3, hb3⟩
    go_wp2_with fail
    refine (srcOf_any S _).mono ?_
    rintro e w4 ⟨x4, rfl, hX4, hx4, hb4⟩
    have l1 := hX1.lt
    have l2 := hX2.lt
    have l3 := hX3.lt
    have l4 := hX4.lt
    have s1 := hb1.size
    have s2 := hb2.size
    have s3 := hb3.size
    have s4 := hb4.size
    have hInj : Inj4 (four x1 x2 x3 x4) := by
      intro i j hi hj e
      match i, j, hi, hj with
      | 0, 0, _, _ => rfl
      | 1, 1, _, _ => rfl
      | 2, 2, _, _ => rfl
      | 3, 3, _, _ => rfl
      | 0, 1, _, _ | 0, 2, _, _ | 0, 3, _, _ | 1, 0, _, _ | 1, 2, _, _ | 1, 3, _, _ | 2, 0, _, _ | 2, 1, _, _ | 2, 3, _, _ | 3, 0, _, _ | 3, 1, _, _ | 3, 2, _, _ => exact absurd e (by simp only [four]; omega)
    have hSr : Srcs w4 (four x1 x2 x3 x4) S (fun _ => 0) := fun j hj => by
      match j, hj with
      | 0, _ => exact ((hX1.below hb2).below hb3).below hb4
      | 1, _ => exact (hX2.below hb3).below hb4
      | 2, _ => exact hX3.below hb4
      | 3, _ => exact hX4
    have hbel : Below w0.heap.size w0 w4 := below_trans (below_trans (below_trans hb1 hb2) hb3) hb4
    have hge : ∀ j, j < 4 → w0.heap.size ≤ four x1 x2 x3 x4 j ∧ four x1 x2 x3 x4 j < w4.heap.size := fun j hj => by
      match j, hj with
      | 0, _ => exact ⟨hx1, by simp only [four]; omega⟩
      | 1, _ => exact ⟨by simp only [four]; omega, by simp only [four]; omega⟩
      | 2, _ => exact ⟨by simp only [four]; omega, by simp only [four]; omega⟩
      | 3, _ => exact ⟨by simp only [four]; omega, by simp only [four]; omega⟩
    clear hX1 hX2 hX3 hX4 hb1 hb2 hb3 hb4 l1 l2 l3 l4 s1 s2 s3 s4 hx1 hx2 hx3 hx4
    obtain ⟨G, hG⟩ : ∃ G, G = four x1 x2 x3 x4 := ⟨_, rfl⟩
    have q1 : x1 = G 0 := by rw [hG]; rfl
    have q2 : x2 = G 1 := by rw [hG]; rfl
    have q3 : x3 = G 2 := by rw [hG]; rfl
    have q4 : x4 = G 3 := by rw [hG]; rfl
    rw [← hG] at hInj hSr hge
    clear hG
    subst q1 q2 q3 q4
    have hNP : Hid (((w4.alloc (.cells (ptrs G) 24)).heap[w4.heap.size]? = some (.cells (ptrs G) 24 (0, 0)))) := heap_alloc_new w4 _
    have HSr : Hid (Srcs (w4.alloc (.cells (ptrs G) 24)) G S (fun _ => 0)) := hSr.below ((Below.refl _ w4).alloc (Nat.le_refl _) _)
    have HBl : Hid (Below w0.heap.size w0 (w4.alloc (.cells (ptrs G) 24))) := hbel.alloc hbel.size _
    have hsz4 := hbel.size
    clear hSr hbel
    go_wp2
    change Code.wp _ _ _ _ (w4.alloc (.cells (ptrs G) 24))
    have hgb : ∀ j, j < 4 → G j ≠ w4.heap.size := fun j hj => Nat.ne_of_lt (hge j hj).2
    have hge0 : ∀ j, j < 4 → w0.heap.size ≤ G j := fun j hj => (hge j hj).1
    generalize w4.heap.size = gb at *
    generalize w4.alloc (.cells (ptrs G) 24) = W at *
    clear hge
    go_loopw [75] (fun i wr => ∃ c : Nat, c ≤ 4 ∧ i = .int .i64 (c : Int) ∧ Srcs wr G S (fun j => if j < c then k else 0) ∧ wr.heap[gb]? = some (.cells (ptrs G) 24 (0, 0)) ∧ Below w0.heap.size w0 wr) (fun i _ => 4 - (intOf i).toNat)
    case atStart => exact ⟨0, by omega, rfl, HSr.out.congr (fun j hj => by simp), hNP.out, HBl.out⟩
    case round =>
      clear HSr hNP HBl
      obtain ⟨c, hc, rfl, hSr, hP, hB⟩ := hrel
      by_cases hlt : c < 4
      · have hcell : wr.cell? ⟨gb, c, none⟩ = some (.pointer (some ⟨G c, 0, none⟩)) := by rw [cell_of_row _ _ _ _ _ _ hP, ptrs_at G c hlt]
        have hci : (c : Int) < 4 := by omega
        have hci0 : (0 : Int) ≤ (c : Int) := by omega
        go_wp2
        go_loopw [15] (fun i wi => ∃ t : Nat, t ≤ k ∧ i = .int .i64 (t : Int) ∧ Srcs wi G S (fun j => if j < c then k else if j = c then t else 0) ∧ wi.heap[gb]? = some (.cells (ptrs G) 24 (0, 0)) ∧ Below w0.heap.size w0 wi) (fun i _ => k - (intOf i).toNat)
        case atStart => exact ⟨0, by omega, rfl, hSr.congr (fun j hj => by simp), hP, hB⟩
        case round =>
          clear hSr hP hB hcell
          obtain ⟨t, ht, rfl, hSr, hP, hB⟩ := hrel
          by_cases htl : t < k
          · have hSc := hSr c hlt
            simp only [Nat.lt_irrefl, if_false, if_true] at hSc
            go_wp2_with fail
            refine (take_nat (G c) S t 1 _ hSc (by omega) (by omega) (by decide)).mono ?_
            rintro e w5 ⟨rfl, hS5, hG5⟩
            have hSr5 : Srcs w5 G S (fun j => if j < c then k else if j = c then t + 1 else 0) := (hSr.take hInj c (t + 1) hlt hS5 hG5).congr fun j hj => by
              by_cases e : j = c
              · subst e; simp
              · simp [e]
            have hP5 : w5.heap[gb]? = some (.cells (ptrs G) 24 (0, 0)) := (hG5.block gb (lt_of_some hP) (fun e => hgb c hlt (Option.some.inj e).symm)).trans hP
            have hB5 : Below w0.heap.size w0 w5 := hB.grown hG5 hB.size (fun q hq => by cases hq; exact hge0 c hlt)
            clear hSr hP hB hS5 hG5 hSc
            go_wp2
            go_roundw
            case rel => exact ⟨t + 1, by omega, by go_num, hSr5, hP5, hB5⟩
            case measure => simp [intOf]; omega
          · obtain rfl : t = k := by omega
            go_wp2
            go_roundw
            case rel => exact ⟨c + 1, by omega, by go_num, hSr.congr (fun j hj => by
              by_cases e : j = c
              · subst e; simp
              · by_cases e2 : j < c
                · simp [e2, show j < c + 1 by omega]
                · simp [e, e2, show ¬ j < c + 1 by omega]), hP, hB⟩
            case measure => simp [intOf]; omega
      · obtain rfl : c = 4 := by omega
        have S0 : SrcAt wr (G 0) S k := hSr 0 (by decide)
        have S1 : SrcAt wr (G 1) S k := hSr 1 (by decide)
        have S2 : SrcAt wr (G 2) S k := hSr 2 (by decide)
        have S3 : SrcAt wr (G 3) S k := hSr 3 (by decide)
        have n01 : ∀ i j, i < 4 → j < 4 → i ≠ j → some (G i) ≠ some (G j) := fun i j hi hj hne e => hne (hInj i j hi hj (Option.some.inj e))
        have r0 := hge0 0 (by decide)
        have r1 := hge0 1 (by decide)
        have r2 := hge0 2 (by decide)
        have r3 := hge0 3 (by decide)
        clear hSr hP hInj hgb hge0
        go_wp2_with fail
        refine (take_nat (G 0) S k m _ S0 (by omega) (by omega) (by omega)).mono ?_
        rintro e w5 ⟨rfl, S0, hG5⟩
        go_wp2_with fail
        refine (take_nat (G 0) S (k + m) n _ S0 (by omega) (by omega) (by omega)).mono ?_
        rintro e w6 ⟨rfl, S0, hG6⟩
        have S2 := S2.kept (gtrans hG5 hG6) (n01 2 0 (by decide) (by decide) (by decide))
        go_wp2_with fail
        refine (turned_nat (G 2) S k m _ S2 (by omega) (by omega) (by omega)).mono ?_
        rintro e w7 ⟨rfl, S2, hG7⟩
        go_wp2_with fail
        refine (turned_nat (G 2) S (k + m) n _ S2 (by omega) (by omega) (by omega)).mono ?_
        rintro e w8 ⟨rfl, S2, hG8⟩
        have S1 := (S1.kept (gtrans hG5 hG6) (n01 1 0 (by decide) (by decide) (by decide))).kept (gtrans hG7 hG8) (n01 1 2 (by decide) (by decide) (by decide))
        have S3 := (S3.kept (gtrans hG5 hG6) (n01 3 0 (by decide) (by decide) (by decide))).kept (gtrans hG7 hG8) (n01 3 2 (by decide) (by decide) (by decide))
        have S0 := S0.kept (gtrans hG7 hG8) (n01 0 2 (by decide) (by decide) (by decide))
        rw [Nat.add_assoc] at S0
        have hB6 : Below w0.heap.size w0 w6 := hB.grown (gtrans hG5 hG6) hB.size (fun q hq => by cases hq; exact r0)
        have hB8 : Below w0.heap.size w0 w8 := hB6.grown (gtrans hG7 hG8) hB6.size (fun q hq => by cases hq; exact r2)
        clear hB hB6 hG5 hG6 hG7 hG8 S2
        have e1 : (fun i => sbit S.data.toList (k + m + i)) = fun i => (fun i => sbit S.data.toList (k + i)) (m + i) := by funext i; rw [Nat.add_assoc]
        rw [e1]
        have hE := two_low (fun i => sbit S.data.toList (k + i)) m n (by omega)
        have hF := two_high (fun i => sbit S.data.toList (k + i)) m n (by omega)
        have b1 := takeN_lt32 (fun i => sbit S.data.toList (k + i)) m (by omega)
        have b2 := takeN_lt32 (fun i => (fun i => sbit S.data.toList (k + i)) (m + i)) n (by omega)
        have b3 := turnN_lt32 (fun i => sbit S.data.toList (k + i)) m (by omega)
        have b4 := turnN_lt32 (fun i => (fun i => sbit S.data.toList (k + i)) (m + i)) n (by omega)
        have b5 := takeN_lt32 (fun i => sbit S.data.toList (k + i)) (m + n) (by omega)
        have b6 := turnN_lt32 (fun i => sbit S.data.toList (k + i)) (m + n) (by omega)
        have HT : Hid (∀ W, SrcAt W (G 1) S k → Calls Try.prog 13 #[.pointer (some ⟨G 1, 0, none⟩), .int .i64 ((m : Int) + (n : Int))] W fun e w' => e = .returned (.int .u32 (takeN (fun i => sbit S.data.toList (k + i)) (m + n) : Int)) ∧ SrcAt w' (G 1) S (k + (m + n)) ∧ W.grownBy w' (some (G 1))) := fun W h => take_nat (G 1) S k (m + n) W h (by omega) (by omega) (by omega)
        have HU : Hid (∀ W, SrcAt W (G 3) S k → Calls Try.prog 14 #[.pointer (some ⟨G 3, 0, none⟩), .int .i64 ((m : Int) + (n : Int))] W fun e w' => e = .returned (.int .u32 (turnN (fun i => sbit S.data.toList (k + i)) (m + n) : Int)) ∧ SrcAt w' (G 3) S (k + (m + n)) ∧ W.grownBy w' (some (G 3))) := fun W h => turned_nat (G 3) S k (m + n) W h (by omega) (by omega) (by omega)
        clear e1
        generalize takeN (fun i => sbit S.data.toList (k + i)) m = A1 at *
        generalize takeN (fun i => (fun i => sbit S.data.toList (k + i)) (m + i)) n = A2 at *
        generalize turnN (fun i => sbit S.data.toList (k + i)) m = A3 at *
        generalize turnN (fun i => (fun i => sbit S.data.toList (k + i)) (m + i)) n = A4 at *
        generalize takeN (fun i => sbit S.data.toList (k + i)) (m + n) = A5 at *
        generalize turnN (fun i => sbit S.data.toList (k + i)) (m + n) = A6 at *
        have t0 : IntKind.i64.wrap ((m : Int) + (n : Int)) = (m : Int) + (n : Int) := by rw [IntKind.wrap_i64]; omega
        have t1 : IntKind.u64.wrap (A1 : Int) = (A1 : Int) := by simp [IntKind.wrap, IntKind.bits, IntKind.signed]; omega
        have t2 : IntKind.u64.wrap (A2 : Int) = (A2 : Int) := by simp [IntKind.wrap, IntKind.bits, IntKind.signed]; omega
        have t3 : IntKind.u64.wrap (A3 : Int) = (A3 : Int) := by simp [IntKind.wrap, IntKind.bits, IntKind.signed]; omega
        have t4 : IntKind.u64.wrap (A4 : Int) = (A4 : Int) := by simp [IntKind.wrap, IntKind.bits, IntKind.signed]; omega
        have t5 : IntKind.u64.wrap (A5 : Int) = (A5 : Int) := by simp [IntKind.wrap, IntKind.bits, IntKind.signed]; omega
        have t6 : IntKind.u64.wrap (A6 : Int) = (A6 : Int) := by simp [IntKind.wrap, IntKind.bits, IntKind.signed]; omega
        have t7 : IntKind.u64.wrap ((A2 : Int) * 2 ^ m) = (A2 : Int) * 2 ^ m % 18446744073709551616 := by simp [IntKind.wrap, IntKind.bits, IntKind.signed]
        have t8 : IntKind.u64.wrap ((A3 : Int) * 2 ^ n) = (A3 : Int) * 2 ^ n % 18446744073709551616 := by simp [IntKind.wrap, IntKind.bits, IntKind.signed]
        go_wp2
        go_region_held (fun _ => True) (trivial) (first | (go_at_call 11; refine (awake3_any _).mono ?_; rintro e w9 ⟨rfl, hb9⟩) | (go_at_call 13; refine (HT.out _ ?_).mono ?_; (exact S1.drew.below hb9); rintro e w10 ⟨rfl, S1', hG10⟩) | (go_at_call 14; refine (HU.out _ ?_).mono ?_; (exact (S3.drew.below hb9).kept hG10 (n01 3 1 (by decide) (by decide) (by decide))); rintro e w11 ⟨rfl, S3', hG11⟩) | (go_at_call_of 18 (G 0); refine (place_any (G 0) S (k + (m + n)) _ ?_).mono ?_; (exact ((S0.drew.below hb9).kept hG10 (n01 0 1 (by decide) (by decide) (by decide))).kept hG11 (n01 0 3 (by decide) (by decide) (by decide))); rintro e w12 ⟨rfl, rfl⟩) | (go_at_call 18; refine (place_any (G 1) S (k + (m + n)) _ ?_).mono ?_; (exact S1'.kept hG11 (n01 1 3 (by decide) (by decide) (by decide))); rintro e w13 ⟨rfl, rfl⟩))
        have hz9 : Below w0.heap.size w0 w9 := hB8.drew.trans (hb9.mono hB8.size)
        have hz10 : Below w0.heap.size w0 w10 := hz9.grown hG10 hz9.size (fun q hq => by cases hq; exact r1)
        have hz11 : Below w0.heap.size w0 w13 := hz10.grown hG11 hz10.size (fun q hq => by cases hq; exact r3)
        clear hb9 hG10 hG11 hz9 hz10 hB8 hE hF
        go_wp2
        go_ret
        exact ⟨rfl, hz11⟩
  · go_enter Try.func6, Try.ntmps6
    go_wp2_with fail
    refine (few_100 _ _ (by omega)).mono ?_
    rintro e w0 ⟨rfl, rfl⟩
    have hin2 : ¬ (((((0 ≤ skip ∧ skip ≤ 900) ∧ 0 ≤ a) ∧ 0 ≤ b) ∧ a ≤ 32) ∧ b ≤ 32 - a) := fun h => hin ⟨h.1.1.1.1.1, h.1.1.1.1.2, h.1.1.1.2, h.1.1.2, h.1.2, h.2⟩
    go_wp2_with fail
    all_goals first
      | (exfalso; omega)
      | (refine (awake3_any _).mono ?_; rintro e w1 ⟨rfl, hb1⟩; go_wp2; go_ret; exact ⟨rfl, hb1⟩)
end Go.Proofs.Ytbkaeibjhnndfaa
