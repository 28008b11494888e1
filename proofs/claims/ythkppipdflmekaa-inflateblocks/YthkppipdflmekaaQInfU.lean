/- Contract of the reader's tokens. -/
import Derived.Test.YthkppipdflmekaaQInfT
namespace Go.Proofs.Ythkppipdflmekaa
open Go.RowKit
attribute [local go_sem ↓] Go.wp_at_zero Go.wp_at_succ
set_option linter.unusedVariables false

theorem Try.infoTk : (Try.prog.info? 43).map (fun i => (i.zero, i.size, i.bytes)) = some (some (.agg #[.int .u8 0, .int .i64 0, .int .i64 0]), 3, 24) := by kernel_rfl
theorem token_any (B gr gx gc : Nat) (s : ByteArray) (p most out sym : Nat) (ls ds : List Nat) (r : Except Nat (Tok × Nat × Nat)) (w : World) (hR : RdAt w B gr gx s p most out) (hC : CodesAt w gc ls ds) (hD : Lens ds) (hs : s.size ≤ 100000000) (hp : p ≤ 8 * s.size) (ho : out ≤ 70000) (hm : most ≤ 70000) (hsy : sym ≠ 256) (hsy2 : sym ≤ 1000) (h : tkE ds (bF8 s) (8 * s.size) most p out sym = r) :
    Calls Try.prog 50 #[.pointer (some ⟨gr, 0, none⟩), .pointer (some ⟨gc, 0, none⟩), .int .i64 (sym : Int)] w fun e w' => (∃ t q o, r = .ok (t, q, o) ∧ e = .returned (.tuple #[tv t, .int .i64 0]) ∧ RdAt w' B gr gx s q most o ∧ KS w w' ∧ Below B w w') ∨ (∃ er t, r = .error er ∧ er ≠ 0 ∧ e = .returned (.tuple #[tv t, .int .i64 (er : Int)]) ∧ KS w w' ∧ Below B w w') := by
  by_cases h1 : sym < 256
  · unfold tkE at h
    rw [if_pos h1] at h
    by_cases h2 : most < out + 1
    · rw [if_pos h2] at h
      refine (token_byteE B gr gx gc s p most out sym w hR ho hm h1 h2).mono ?_
      rintro e w' ⟨t, rfl, hK, hB⟩
      exact .inr ⟨2, t, h.symm, by decide, rfl, hK, hB⟩
    · rw [if_neg h2] at h
      refine (token_byte B gr gx gc s p most out sym w hR ho hm h1 (by omega)).mono ?_
      rintro e w' ⟨rfl, hR', hK, hB⟩
      exact .inl ⟨_, _, _, h.symm, rfl, hR', hK, hB⟩
  · exact token_rep B gr gx gc s p most out sym ls ds r w hR hC hD hs hp ho hm (by omega) hsy2 h
theorem tkE_ok {ds : List Nat} (h15 : all15 ds) {f : Nat → Bool} {L most p out sym q o : Nat} {t : Tok} (hp : p ≤ L) (h : tkE ds f L most p out sym = .ok (t, q, o)) : p ≤ q ∧ q ≤ L ∧ o ≤ most ∧ out < o + 1 ∧ (o : Int) = out + wid t ∧ t.b < 256 ∧ (t.l = 0 → t.d = 0) ∧ t.d ≤ (out : Int) ∧ 0 ≤ t.l ∧ t.l ≤ 33000 ∧ 0 ≤ t.d := by
  unfold tkE at h
  by_cases h1 : sym < 256
  · rw [if_pos h1] at h
    by_cases h2 : most < out + 1
    · rw [if_pos h2] at h; cases h
    · rw [if_neg h2] at h
      simp only [Except.ok.injEq, Prod.mk.injEq] at h
      obtain ⟨rfl, rfl, rfl⟩ := h
      exact ⟨by omega, hp, by omega, by omega, rfl, h1, fun _ => rfl, by simp only; omega, by simp, by simp, by simp⟩
  · rw [if_neg h1] at h
    cases hz1 : szE f L p (sym - 257) false with
    | error e => rw [hz1] at h; cases h
    | ok r1 =>
      obtain ⟨size, p1⟩ := r1
      rw [hz1] at h
      simp only at h
      obtain ⟨a1, a2, a3⟩ := szE_pos hz1 hp
      cases hx : nxF ds f L p1 with
      | error e => rw [hx] at h; cases h
      | ok r2 =>
        obtain ⟨d, p2⟩ := r2
        rw [hx] at h
        simp only at h
        obtain ⟨_, b1, b2⟩ := nxF_ok h15 a3 hx
        cases hz2 : szE f L p2 d true with
        | error e => rw [hz2] at h; cases h
        | ok r3 =>
          obtain ⟨dist, p3⟩ := r3
          rw [hz2] at h
          simp only at h
          obtain ⟨c1, c2, c3⟩ := szE_pos hz2 b2
          by_cases hdo : out < dist
          · rw [if_pos hdo] at h; cases h
          · rw [if_neg hdo] at h
            by_cases hmo : most < out + size
            · rw [if_pos hmo] at h; cases h
            · rw [if_neg hmo] at h
              simp only [Except.ok.injEq, Prod.mk.injEq] at h
              obtain ⟨rfl, rfl, rfl⟩ := h
              have hs1 : 1 ≤ size := by
                obtain ⟨h0, m, _, h3, _⟩ := szE_ok hz1
                omega
              refine ⟨by omega, c3, by omega, by omega, ?_, by show 0 < 256; decide, fun h => by simp only at h; omega, by simp only; omega, by simp only; omega, by simp only; omega, by simp only; omega⟩
              unfold wid
              simp only
              rw [if_pos (by omega)]; omega
/-- The length of a slice. -/
def lenV : Value → Nat
  | .slice _ n _ => n
  | _ => 0
theorem three_newU (w : World) (t : Tok) (ty : TypeId) : ∀ j u, [Value.int .u8 (t.b : Int), .int .i64 t.l, .int .i64 t.d][j]? = some u → (w.alloc (.cells #[.int .u8 (t.b : Int), .int .i64 t.l, .int .i64 t.d] ty)).cell? ((⟨w.heap.size, 0, none⟩ : Addr).add j) = some u :=
  fun j u hu => by
    have hadd : (⟨w.heap.size, 0, none⟩ : Addr).add j = ⟨w.heap.size, j, none⟩ := by unfold Addr.add; split <;> simp_all
    rw [hadd, cell_of_row _ _ _ _ _ _ (heap_alloc_new w _)]
    simpa using hu
theorem three_oneU (b l d : Int) : ∀ u ∈ [Value.int .u8 b, .int .i64 l, .int .i64 d], u.oneCell' = true := by
  intro u hu
  simp only [List.mem_cons, List.not_mem_nil, or_false] at hu
  rcases hu with rfl | rfl | rfl <;> rfl
/-- A row of tokens grows: the reader stays. -/
theorem RdAt.app {w w' : World} {B C gr gx n : Nat} {s : ByteArray} {p most out : Nat} {v : Value} {xs : List Value} (h : RdAt w B gr gx s p most out) (hO : w.ownsRow C 43 3 v n xs) (hg : w.grownBy w' v.ownBlock) : RdAt w' B gr gx s p most out := by
  have hk : K1 43 w w' := by
    refine ⟨hg.size, fun b c t q hc h1 => (hg.block b (Array.getElem?_eq_some_iff.1 hc).1 (own_ne hO hc h1)).trans hc⟩
  exact h.k1 hk foreignT
theorem ks_app {w0 w w' : World} {C n : Nat} {v : Value} {xs : List Value} {sz : Nat} {ty : TypeId} (h : KS w0 w) (hO : w.ownsRow C ty sz v n xs) (hC : w0.heap.size ≤ C) (hg : w.grownBy w' v.ownBlock) : KS w0 w' :=
  ⟨Nat.le_trans h.1 hg.size, fun b c t p hb h1 h2 => (hg.block b (Nat.lt_of_lt_of_le (Array.getElem?_eq_some_iff.1 hb).1 h.1) (fun e => by
    have := (Array.getElem?_eq_some_iff.1 hb).1
    have := (hO.lt b e.symm).1
    omega)).trans (h.2 b c t p hb h1 h2)⟩
set_option maxRecDepth 100000 in
set_option maxHeartbeats 4000000 in
theorem tokens_any (B gr gx gc : Nat) (s : ByteArray) (p most out F : Nat) (ls ds : List Nat) (r : Except Nat (List Tok × Nat × Nat)) (w : World) (hR : RdAt w B gr gx s p most out) (hC : CodesAt w gc ls ds) (hLs : Lens ls) (hD : Lens ds) (hs : s.size ≤ 100000000) (hp : p ≤ 8 * s.size) (ho : out ≤ most) (hm : most ≤ 70000) (hF : 8 * s.size < p + F) (h : tksF ls ds (bF8 s) (8 * s.size) most F p out [] = r) :
    Calls Try.prog 37 #[.pointer (some ⟨gr, 0, none⟩), .pointer (some ⟨gc, 0, none⟩)] w fun e w' => (∃ ts q o v, r = .ok (ts, q, o) ∧ e = .returned (.tuple #[v, .int .i64 0]) ∧ w'.ownsRow w.heap.size 43 3 v ts.length (tcs ts) ∧ q ≤ 8 * s.size ∧ p < q ∧ o ≤ most ∧ RdAt w' B gr gx s q most o ∧ KS w w' ∧ Below B w w') ∨ (∃ er, r = .error er ∧ er ≠ 0 ∧ e = .returned (.tuple #[.slice none 0 0, .int .i64 (er : Int)]) ∧ KS w w' ∧ Below B w w') := by
  obtain ⟨i0, hi, hz0, hz1, hz2⟩ := info_parts Try.infoTk
  have hB0 := hR.size
  have HR0 : Hid (RdAt w B gr gx s p most out) := hR
  have HC0 : Hid (CodesAt w gc ls ds) := hC
  have HH : Hid (tksF ls ds (bF8 s) (8 * s.size) most F p out [] = r) := h
  have HLs : Hid (Lens ls) := hLs
  have HD : Hid (Lens ds) := hD
  clear hR hC h hLs hD
  go_enter Try.func37, Try.ntmps37
  go_wp2
  go_loopw [6] (fun v wr => ∃ (p' o' F' : Nat) (acc : List Tok), tksF ls ds (bF8 s) (8 * s.size) most F' p' o' acc = r ∧ 8 * s.size < p' + F' ∧ p' ≤ 8 * s.size ∧ p ≤ p' ∧ o' ≤ most ∧ acc.length ≤ p' ∧ wr.ownsRow w.heap.size 43 3 v acc.length (tcs acc) ∧ RdAt wr B gr gx s p' most o' ∧ KS w wr ∧ Below B w wr) (fun v _ => 8 * s.size + 1 - lenV v)
  case atStart => exact ⟨p, out, F, [], HH.out, hF, hp, Nat.le_refl _, ho, Nat.zero_le _, World.ownsRow_nil _ _ _ _, HR0.out, KS.refl _, Below.refl _ _⟩
  case round =>
    clear HH
    obtain ⟨p', o', F', acc, hT, hF', hp', hpp, ho', hacc, hO, hR, hK, hB⟩ := hrel
    have hC := HC0.out.ks hK
    obtain ⟨B1, t1, B2, t2, hg0, g0, g1, hP1, hP2⟩ := codes_cells hC
    have r0 := hR.cell0
    obtain ⟨hL15, hLl, hLf⟩ := HLs.out
    have HR : Hid (RdAt wr B gr gx s p' most o') := hR
    have HP1 : Hid (Planted wr B1 t1 ls ls.length) := hP1
    have HG0 : Hid (wr.heap[gc]? = some (.cells #[.pointer (some ⟨t1, 0, none⟩), .pointer (some ⟨t2, 0, none⟩)] 110 (0, 0))) := hg0
    have HO : Hid (wr.ownsRow w.heap.size 43 3 _ acc.length (tcs acc)) := hO
    have HK : Hid (KS w wr) := hK
    have HB : Hid (Below B w wr) := hB
    have HC : Hid (CodesAt wr gc ls ds) := hC
    obtain ⟨av, cv, rfl⟩ := own_slice hO
    clear hC hR hP1 hP2 hg0 g1 hO hK hB
    obtain ⟨F2, rfl⟩ : ∃ F2, F' = F2 + 1 := ⟨F' - 1, by omega⟩
    rw [tksF] at hT
    cases hx : nxF ls (bF8 s) (8 * s.size) p' with
    | error er =>
      rw [hx] at hT
      simp only at hT
      have HX : Hid (∀ W, RdAt W B gr gx s p' most o' → Planted W B1 t1 ls ls.length → Calls Try.prog 49 #[.pointer (some ⟨t1, 0, none⟩), .pointer (some ⟨gx, 0, none⟩)] W fun e w' => e = .returned (.tuple #[.int .i64 0, .int .i64 (er : Int)]) ∧ er ≠ 0 ∧ KS W w' ∧ Below B W w' ∧ ∃ q, RdAt w' B gr gx s q most o') := fun W h1 h2 => rnext_err B gr gx s p' most o' er B1 t1 ls W h1 hs hp' h2 hL15 hLl hLf hx
      clear hx
      go_wp2
      go_region_held (fun w' => w'.cell? ⟨gc, 0, none⟩ = some (.pointer (some ⟨t1, 0, none⟩)) ∧ w'.cell? ⟨gr, 0, none⟩ = some (.pointer (some ⟨gx, 0, none⟩))) (first | exact ⟨g0, r0⟩ | assumption)
        (first | (go_at_call 49; refine (HX.out _ (HR.out.drewN 1) (HP1.out.ks (ks_drewN _ 1))).mono ?_; rintro e w2 ⟨rfl, her, hK2, hB2, q2, hR2⟩; have hS2 : w2.cell? ⟨gc, 0, none⟩ = some (.pointer (some ⟨t1, 0, none⟩)) ∧ w2.cell? ⟨gr, 0, none⟩ = some (.pointer (some ⟨gx, 0, none⟩)) := ⟨(code_cell HG0.out ((ks_drewN _ 1).trans hK2)).2.1, hR2.cell0⟩))
      have heri : ((er : Int) != 0) = true := by simpa using her
      have HKE : Hid (KS w w2) := HK.out.trans ((ks_drewN _ 1).trans hK2)
      have HBE : Hid (Below B w w2) := HB.out.trans ((Below.refl _ wr).drew.trans hB2)
      clear hK2 hB2 hR2 hS2 HX g0 r0
      go_wp2
      go_ret2
      exact .inr ⟨er, hT.symm, her, rfl, HKE.out, HBE.out⟩
    | ok r1 =>
      obtain ⟨sym, p1⟩ := r1
      rw [hx] at hT
      simp only at hT
      obtain ⟨hsl, hp1a, hp1b⟩ := nxF_ok hL15 hp' hx
      have HX : Hid (∀ W, RdAt W B gr gx s p' most o' → Planted W B1 t1 ls ls.length → Calls Try.prog 49 #[.pointer (some ⟨t1, 0, none⟩), .pointer (some ⟨gx, 0, none⟩)] W fun e w' => e = .returned (.tuple #[.int .i64 (sym : Int), .int .i64 0]) ∧ RdAt w' B gr gx s p1 most o' ∧ KS W w' ∧ Below B W w') := fun W h1 h2 => rnext_ok B gr gx s p' most o' sym p1 B1 t1 ls W h1 hs hp' h2 hL15 hLl hLf hx
      clear hx
      go_wp2
      go_region_held (fun w' => w'.cell? ⟨gc, 0, none⟩ = some (.pointer (some ⟨t1, 0, none⟩)) ∧ w'.cell? ⟨gr, 0, none⟩ = some (.pointer (some ⟨gx, 0, none⟩))) (first | exact ⟨g0, r0⟩ | assumption)
        (first | (go_at_call 49; refine (HX.out _ (HR.out.drewN 1) (HP1.out.ks (ks_drewN _ 1))).mono ?_; rintro e w2 ⟨rfl, hR2, hK2, hB2⟩; have hS2 : w2.cell? ⟨gc, 0, none⟩ = some (.pointer (some ⟨t1, 0, none⟩)) ∧ w2.cell? ⟨gr, 0, none⟩ = some (.pointer (some ⟨gx, 0, none⟩)) := ⟨(code_cell HG0.out ((ks_drewN _ 1).trans hK2)).2.1, hR2.cell0⟩))
      have hk2 := (ks_drewN wr 1).trans hK2
      have HK2 : Hid (KS w w2) := HK.out.trans hk2
      have HB2 : Hid (Below B w w2) := HB.out.trans ((Below.refl _ wr).drew.trans hB2)
      have HR2 : Hid (RdAt w2 B gr gx s p1 most o') := hR2
      have HO2 : Hid (w2.ownsRow w.heap.size 43 3 (.slice av acc.length cv) acc.length (tcs acc)) := own_ks HO.out hk2 (by decide) (by decide)
      have HC2 : Hid (CodesAt w2 gc ls ds) := HC.out.ks hk2
      clear hK2 hB2 hR2 hS2 HX g0 r0 hk2 HR HP1 HG0 HO HK HB HC
      by_cases hse : sym = 256
      · rw [if_pos hse] at hT
        subst hse
        go_wp2
        go_ret2
        exact .inl ⟨acc, p1, o', _, hT.symm, rfl, HO2.out, hp1b, by omega, ho', HR2.out, HK2.out, HB2.out⟩
      · rw [if_neg hse] at hT
        have hsei : ((sym : Int) == 256) = false := by simp; omega
        cases hk : tkE ds (bF8 s) (8 * s.size) most p1 o' sym with
        | error er =>
          rw [hk] at hT
          simp only at hT
          have HTK : Hid (Calls _ _ _ _ _) := token_any B gr gx gc s p1 most o' sym ls ds _ w2 HR2.out HC2.out HD.out hs hp1b (by omega) hm hse (by omega) hk
          clear hk
          go_wp2_with fail
          refine (Hid.out HTK : Calls _ _ _ _ _).mono ?_
          rintro e w3 (⟨t, q, o, hc, _⟩ | ⟨er', t, hc, her, rfl, hK3, hB3⟩)
          · cases hc
          · simp only [Except.error.injEq] at hc
            subst hc
            have heri : ((er : Int) != 0) = true := by simpa using her
            have HKE : Hid (KS w w3) := HK2.out.trans hK3
            have HBE : Hid (Below B w w3) := HB2.out.trans hB3
            have hsz3 : B ≤ w3.heap.size := Nat.le_trans hB0 HBE.out.size
            clear HTK hK3 hB3
            rw [tv_eq]
            go_wp2
            go_ret2
            exact .inr ⟨er, hT.symm, her, rfl, HKE.out.trans (ks_alloc _ _), HBE.out.alloc hsz3 _⟩
        | ok r2 =>
          obtain ⟨t, p2, o2⟩ := r2
          rw [hk] at hT
          simp only at hT
          obtain ⟨hq1, hq2, hq3, _⟩ := tkE_ok HD.out.1 hp1b hk
          have HTK : Hid (Calls _ _ _ _ _) := token_any B gr gx gc s p1 most o' sym ls ds _ w2 HR2.out HC2.out HD.out hs hp1b (by omega) hm hse (by omega) hk
          clear hk
          go_wp2_with fail
          refine (Hid.out HTK : Calls _ _ _ _ _).mono ?_
          rintro e w3 (⟨t', q', o'', hc, rfl, hR3, hK3, hB3⟩ | ⟨er', t', hc, _⟩)
          · simp only [Except.ok.injEq, Prod.mk.injEq] at hc
            obtain ⟨rfl, rfl, rfl⟩ := hc
            obtain ⟨tb, tl, td⟩ := t
            rw [tv_eq]
            have HO3 : Hid ((w3.alloc (.cells #[.int .u8 (tb : Int), .int .i64 tl, .int .i64 td] 43)).ownsRow w.heap.size 43 3 (.slice av acc.length cv) acc.length (tcs acc)) := (own_ks HO2.out hK3 (by decide) (by decide)).alloc _
            have hB3' : Below B w w3 := HB2.out.trans hB3
            have hsz3 : B ≤ w3.heap.size := Nat.le_trans hB0 hB3'.size
            have hsw : w.heap.size ≤ w3.heap.size := hB3'.size
            have HB3 : Hid (Below B w (w3.alloc (.cells #[.int .u8 (tb : Int), .int .i64 tl, .int .i64 td] 43))) := hB3'.alloc hsz3 _
            have HK3 : Hid (KS w (w3.alloc (.cells #[.int .u8 (tb : Int), .int .i64 tl, .int .i64 td] 43))) := (HK2.out.trans hK3).trans (ks_alloc _ _)
            have HR3 : Hid (RdAt (w3.alloc (.cells #[.int .u8 (tb : Int), .int .i64 tl, .int .i64 td] 43)) B gr gx s p2 most o2) := hR3.below ((Below.refl _ w3).alloc (Nat.le_refl _) _)
            have h3n := three_newU (w3.alloc (.cells #[.int .u8 (tb : Int), .int .i64 tl, .int .i64 td] 43)) ⟨tb, tl, td⟩ 43
            rw [World.size_alloc] at h3n
            simp only at h3n
            have HN3 : Hid _ := h3n
            have HONE : Hid (∀ u ∈ [Value.int .u8 (tb : Int), .int .i64 tl, .int .i64 td], u.oneCell' = true) := three_oneU _ _ _
            clear h3n HTK hR3 hK3 hB3 hB3' HK2 HB2 HR2 HO2 HC2
            go_wp2_with (at_builtin; refine wpList_append_own _ rfl _ _ 35 rfl w.heap.size 43 i0 (.agg #[.int .u8 0, .int .i64 0, .int .i64 0]) 3 24 Try.underlying35 hi hz0 hz1 hz2 rfl (by decide) _ _ _ rfl (HO3.out.alloc _) ⟨w3.heap.size + 1, 0, none⟩ 1 1 [.int .u8 (tb : Int), .int .i64 tl, .int .i64 td] rfl rfl HN3.out HONE.out (by unfold maxLen; omega) (by omega) (by simp; omega) ?_)
            intro v8 w8 hown8 hg8 _
            have hO8 : w8.ownsRow w.heap.size 43 3 v8 (acc ++ [(⟨tb, tl, td⟩ : Tok)]).length (tcs (acc ++ [(⟨tb, tl, td⟩ : Tok)])) := by rw [tcs_snoc, List.length_append]; exact hown8
            have HO8 : Hid (w8.ownsRow w.heap.size 43 3 v8 (acc ++ [(⟨tb, tl, td⟩ : Tok)]).length (tcs (acc ++ [(⟨tb, tl, td⟩ : Tok)]))) := hO8
            have HR8 : Hid (RdAt w8 B gr gx s p2 most o2) := (HR3.out.below ((Below.refl _ _).alloc (Nat.le_refl _) _)).app (HO3.out.alloc _) hg8
            have HK8 : Hid (KS w w8) := ks_app (HK3.out.trans (ks_alloc _ _)) (HO3.out.alloc _) (Nat.le_refl _) hg8
            have HB8 : Hid (Below B w w8) := (HB3.out.alloc (by rw [World.size_alloc]; omega) _).grown hg8 (by rw [World.size_alloc, World.size_alloc]; omega) (fun q hq => by have := (HO3.out.lt q hq).1; omega)
            obtain ⟨a8, c8, rfl⟩ := own_slice hO8
            clear hown8 hg8 hO8 HO3 HR3 HK3 HB3 HN3
            go_wp2
            go_roundw
            case rel => exact ⟨p2, o2, F2, acc ++ [⟨tb, tl, td⟩], hT, by omega, hq2, by omega, hq3, by rw [List.length_append, List.length_singleton]; omega, HO8.out, HR8.out, HK8.out, HB8.out⟩
            case measure => simp [lenV]; omega
          · cases hc
end Go.Proofs.Ythkppipdflmekaa
