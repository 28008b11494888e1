/- The walk of WalCrashes. (Written by wip/wwc.py.) -/
import Derived.Test.YtkaikjlklhcnlaaWalY
import Derived.Test.YtkaikjlklhcnlaaWalQ
import Derived.Test.YtkaikjlklhcnlaaOpsW
import Derived.Test.YtkaikjlklhcnlaaFew
namespace Go.Proofs.Ytkaikjlklhcnlaa
open Go.RowKit Go.Maps
set_option linter.unusedVariables false
set_option linter.unusedSimpArgs false

theorem mem_snoc_le {n : Nat} {l : List (List UInt8)} {x : List UInt8} (h : ∀ r ∈ l, r.length ≤ n) (hx : x.length ≤ n) : ∀ r ∈ l ++ [x], r.length ≤ n := by
  intro r hr
  rcases List.mem_append.1 hr with hr | hr
  · exact h r hr
  · rw [List.mem_singleton] at hr; subst hr; exact hx
theorem opw_len {w : World} {a : Option Addr} {len cap : Nat} {l : List OpW} (h : IsOpW w a len cap l) : len ≤ 9223372036854775807 := by
  rcases h.2 with ⟨_, h, _⟩ | ⟨x, _, h1, h2, _⟩ <;> omega
theorem opw_at {w : World} {a : Option Addr} {len cap : Nat} {l : List OpW} (h : IsOpW w a len cap l) {i : Nat} (hi : i < len) : ∃ b o u, a = some ⟨b, o, none⟩ ∧ len ≤ cap ∧ (l.getD i default).ok ∧ KSl w u (l.getD i default).ks ∧ b < w.heap.size ∧ w.cell? ⟨b, o + i * 4, none⟩ = some (.bool (l.getD i default).rst) ∧ w.cell? ⟨b, o + i * 4 + 1, none⟩ = some (.string (l.getD i default).add) ∧ w.cell? ⟨b, o + i * 4 + 2, none⟩ = some (.int .i64 (l.getD i default).arm) ∧ w.cell? ⟨b, o + i * 4 + 3, none⟩ = some u := by
  rcases h.2 with ⟨_, h, _⟩ | ⟨x, rfl, h1, h2, h3⟩
  · omega
  · obtain ⟨hok, u, hk, hc⟩ := h3 i hi
    obtain ⟨b, o, s⟩ := x
    have hs : s = none := by
      obtain ⟨_, u0, _, hc0⟩ := h3 0 (by omega)
      have c0 : w.cell? ⟨b, o, s⟩ = some _ := hc0 0 _ rfl
      cases s with
      | none => rfl
      | some s => unfold World.cell? at c0; split at c0 <;> simp at c0
    subst hs
    have c0 := hc 0 _ rfl
    have c1 := hc 1 _ rfl
    have c2 := hc 2 _ rfl
    have c3 := hc 3 _ rfl
    rw [Addr.add_mid] at c0 c1 c2 c3
    rw [Nat.add_zero] at c0
    rw [← Nat.add_assoc] at c1 c2 c3
    exact ⟨b, o, u, rfl, h1, hok, hk, World.block_lt_of_cell? _ _ c0, c0, c1, c2, c3⟩
theorem grow_at {w5 : World} {B n : Nat} {v' : Value} {row : Option Nat} {l : List (List UInt8)} (h : v'.ownBlock = row ∨ v'.ownBlock = some n) (ho : OS w5 B v' l) : ∀ r, v'.ownBlock = some r → row = some r ∨ n ≤ r ∧ r < w5.heap.size := fun r e => by
  rcases h with h | h
  · exact .inl (h ▸ e)
  · have h2 := (ho.lt r e).2
    rw [h] at e
    injection e with e
    exact .inr ⟨by omega, h2⟩
/-- Texts are appended to a row that others hold. -/
theorem cr_grow2 {w w3 w4 w5 : World} {lb d bx : Nat} {S : DS} {H : Nat → Prop} {u x : Value} {rs rn : List (List UInt8)} {cs : Array Value} {T0 : TypeId} {v' : Value} (hl : ∃ r1 t1, LH w4 lb d S H r1 t1) (hu : RH w4 H u rs) (hk : Keeps (fun k => k < w.heap.size) w w4) (hb : w4.heap[bx]? = some (.cells cs T0 (0, 0))) (h1 : H bx) (h2 : ∀ k, k < w.heap.size → H k) (h3 : ∀ r, x.ownBlock = some r → H r) (hsw : w.heap.size ≤ w3.heap.size)
    (hg : w4.grownBy w5 x.ownBlock) (ho : OS w5 w3.heap.size v' rn) (hr : ∀ r, v'.ownBlock = some r → x.ownBlock = some r ∨ w4.heap.size ≤ r ∧ r < w5.heap.size) (hx : ∀ r, x.ownBlock = some r → w3.heap.size ≤ r) (hbx : bx < w3.heap.size) (hun : ∀ r, u.ownBlock = some r → r < w3.heap.size) :
    ∃ H3 : Nat → Prop, Hid (∃ r1 t1, LH w5 lb d S H3 r1 t1) ∧ Hid (RH w5 H3 u rs) ∧ Hid (Keeps (fun k => k < w.heap.size) w w5) ∧ Hid (w5.heap[bx]? = some (.cells cs T0 (0, 0))) ∧ H3 bx ∧ (∀ k, k < w.heap.size → H3 k) ∧ Hid (RH w5 H3 v' rn) := by
  obtain ⟨r1, t1, hl⟩ := hl
  have hl5 := hl.grown hg h3
  have hbl : bx < w4.heap.size := (Array.getElem?_eq_some_iff.1 hb).1
  refine ⟨_, ⟨r1, t1, hl5⟩, ⟨own_kept hu.1 (fun r e => hg.block r (own_lt hu.1 e).1 (fun e' => by have := hun r e; have := hx r e'.symm; omega)), fun r e => .inl (hu.2 r e)⟩, hk.grown hg (fun k hk' => Nat.lt_of_lt_of_le hk' hk.size) (fun k e hk' => by have := hx k e; omega), (hg.block bx hbl (fun e => by have := hx bx e.symm; omega)).trans hb, .inl h1, fun k hk' => .inl (h2 k hk'), ⟨ho.mono (Nat.zero_le _), fun r e => ?_⟩⟩
  rcases hr r e with hr | hr
  · exact .inl (h3 r hr)
  · exact .inr hr
theorem zeroOpW (w : World) : (zeroValue 39).run Try.prog w = .ok (.agg #[.bool false, .string ⟨#[]⟩, .int .i64 0, .slice none 0 0]) w := by kernel_rfl
theorem LW.up {S : DS} {T : Fo} {a : Nat} {B : List UInt8} {o : Nat} {room : Int} {N M : Nat} (h : LW S T a B o room N) (hN : N ≤ M) : LW S T a B o room M := ⟨h.lf, h.oth, h.dead, h.left, h.room, fun p hp => Nat.le_trans (h.tmp p hp) hN⟩
set_option maxRecDepth 100000 in
set_option maxHeartbeats 16000000 in
theorem lawWalCrashes_walk (a0 : Option Addr) (len0 cap0 : Nat) (l : List OpW) (w : World) (h0 : IsOpW w a0 len0 cap0 l) :
    Calls Try.prog 5 #[.slice a0 len0 cap0] w fun e w' => e = .returned (.bool true) ∧ Below w.heap.size w w' := by
  have hlen0 := opw_len h0
  have HOP : Hid (IsOpW w a0 len0 cap0 l) := h0
  clear h0
  go_enter Try.func5, Try.ntmps5
  go_wp2_with fail
  refine (start_any' 1048576 w (by decide) (by decide)).mono ?_
  rintro e w1 ⟨lb, d, S0, aa, o, rfl, hls, hb1, hvb⟩
  have HK1 : Hid (Keeps (fun k => k < w.heap.size) w w1) := Keeps.of_below hb1 (fun k hk => hk)
  have hba : Below w1.heap.size w1 (w1.alloc (.cells #[] 9)) := (Below.refl _ _).alloc (Nat.le_refl _) _
  have HL1 : Hid (LH (w1.alloc (.cells #[] 9)) lb d S0 (fun k => k < w.heap.size ∨ (Value.slice (some ⟨w1.heap.size, 0, none⟩) 0 0).ownBlock = some k) [] false) := ((hls.lh hvb).more hba).less (fun k hk => by
    rcases hk with hk | hk
    · exact .inl hk
    · cases hk; exact .inr ⟨Nat.le_refl _, by simp⟩)
  have HW1 : Hid (OS (w1.alloc (.cells #[] 9)) 0 (.slice (some ⟨w1.heap.size, 0, none⟩) 0 0) []) := (OS.empty w1).mono (Nat.zero_le _)
  have HLW : Hid (LW S0 [] aa (frs [] ++ []) o 1048576 10000) := hls.lw.up (by decide)
  have HKA : Hid (Keeps (fun k => k < w.heap.size) w (w1.alloc (.cells #[] 9))) := HK1.out.trans (Keeps.of_below hba (fun k hk => Nat.lt_of_lt_of_le hk HK1.out.size))
  clear hls hb1 hba hvb
  obtain ⟨WA, hWA⟩ : ∃ WA, WA = w1.alloc (.cells #[] 9) := ⟨_, rfl⟩
  rw [← hWA] at HL1 HKA HW1
  have HWA : Hid (w1.alloc (.cells #[] 9) = WA) := hWA.symm
  clear hWA
  go_wp2_with fail
  rw [show w1.alloc (.cells #[] 9) = WA from HWA.out]
  refine (awake15_any WA).mono ?_
  rintro e w2 ⟨rfl, hb2⟩
  have HL2 : Hid (LH w2 lb d S0 (fun k => k < w.heap.size ∨ (Value.slice (some ⟨w1.heap.size, 0, none⟩) 0 0).ownBlock = some k) [] false) := HL1.out.below hb2
  have HW2 : Hid (OS w2 0 (.slice (some ⟨w1.heap.size, 0, none⟩) 0 0) []) := HW1.out.below hb2
  have HK2 : Hid (Keeps (fun k => k < w.heap.size) w w2) := HKA.out.trans (Keeps.of_below hb2 (fun k hk => Nat.lt_of_lt_of_le hk HKA.out.size))
  have HSM0 := hsame w2 HL2.out ⟨HW2.out, fun r hr => .inr hr⟩ (by simp) (by simp)
  rw [decide_eq_true rfl] at HSM0
  have HSM : Hid (Calls Try.prog _ _ _ _) := HSM0
  clear hb2 HL1 HKA HWA HW1 HSM0
  go_wp2_with fail
  refine HSM.out.mono ?_
  rintro e w3 ⟨rfl, hb3⟩
  have HL3 : Hid (LH w3 lb d S0 (fun k => k < w.heap.size ∨ (Value.slice (some ⟨w1.heap.size, 0, none⟩) 0 0).ownBlock = some k) [] false) := HL2.out.below hb3
  have HW3 : Hid (OS w3 0 (.slice (some ⟨w1.heap.size, 0, none⟩) 0 0) []) := HW2.out.below hb3
  have HK3 : Hid (Keeps (fun k => k < w.heap.size) w w3) := HK2.out.trans (Keeps.of_below hb3 (fun k hk => Nat.lt_of_lt_of_le hk HK2.out.size))
  clear hb3 HL2 HK2 HSM HW2 HK1
  go_wp2
  go_loopw [4, 5, 6] (fun v4 v5 v6 wr => ∃ (i : Nat) (rs : List (List UInt8)) (S : DS) (T : Fo) (a lb : Nat) (t : List UInt8) (tn : Bool), i ≤ len0 ∧ i ≤ 20 ∧ v6 = .int .i64 (i : Int) ∧ v4 = .pointer (some ⟨lb, 0, none⟩) ∧ rs.length ≤ i ∧ (∀ r ∈ rs, r.length ≤ 300) ∧ TornB t ∧ LH wr lb d S (fun k => k < w.heap.size ∨ v5.ownBlock = some k) rs tn ∧ OS wr 0 v5 rs ∧ LW S T a (frs rs ++ t) o 1048576 10000 ∧ Keeps (fun k => k < w.heap.size) w wr) (fun _ _ v _ => 20 - (intOf v).toNat)
  case atStart => exact ⟨0, [], S0, [], aa, lb, [], false, Nat.zero_le _, by omega, rfl, rfl, by simp, fun r hr => (by cases hr), .inl rfl, HL3.out, HW3.out, HLW.out, HK3.out⟩
  case round =>
    obtain ⟨i, rs, S, T, a, lb, t, tn, hi1, hi2, rfl, rfl, hrl, hr3, htn, hlh, how, hlw, hk⟩ := hrel
    obtain ⟨ua, uc, rfl⟩ := how.shape
    have HLr : Hid (LH wr lb d S (fun k => k < w.heap.size ∨ (Value.slice ua rs.length uc).ownBlock = some k) rs tn) := hlh
    have HWr : Hid (OS wr 0 (.slice ua rs.length uc) rs) := how
    have HLWr : Hid (LW S T a (frs rs ++ t) o 1048576 10000) := hlw
    have HTN : Hid (TornB t) := htn
    have HK : Hid (Keeps (fun k => k < w.heap.size) w wr) := hk
    have HR3 : Hid (∀ r ∈ rs, r.length ≤ 300) := hr3
    have htl := torn_len htn
    have hfl := frs_bd hr3
    have hfl2 : (frs rs).length ≤ 6160 := Nat.le_trans hfl (Nat.mul_le_mul (by omega : rs.length ≤ 20) (Nat.le_refl _))
    clear hlh how hlw htn hk hr3 HL3 HW3 HK3 HLW hfl
    by_cases hgo : i < len0 ∧ i < 20
    · obtain ⟨hg1, hg2⟩ := hgo
      have hg1i : (i : Int) < (len0 : Int) := by omega
      have hg2i : (i : Int) < 20 := by omega
      have hi0 : (0 : Int) ≤ (i : Int) := by omega
      obtain ⟨b, oo, ku, rfl, hcl, hok, hku, hbl, d0, d1, d2, d3⟩ := opw_at HOP.out hg1
      have c0 : wr.cell? ⟨b, oo + i * 4, none⟩ = _ := (HK.out.cell hbl _).trans d0
      have c1 : wr.cell? ⟨b, oo + i * 4 + 1, none⟩ = _ := (HK.out.cell hbl _).trans d1
      have c2 : wr.cell? ⟨b, oo + i * 4 + 2, none⟩ = _ := (HK.out.cell hbl _).trans d2
      have c3 : wr.cell? ⟨b, oo + i * 4 + 3, none⟩ = _ := (HK.out.cell hbl _).trans d3
      obtain ⟨⟨ha0, ha1⟩, hadL, hkl⟩ := hok
      clear d0 d1 d2 d3
      generalize l.getD i default = r at *
      obtain ⟨rst, add, arm, ks⟩ := r
      simp only at c0 c1 c2 hadL hku ha0 ha1 hkl
      have hkw : 0 < ks.length → ∀ r, ku.ownBlock = some r → r < w.heap.size := fun h r hr => by
        obtain ⟨a', c', e, _, _, hh, _⟩ := hku
        obtain ⟨b', o', e2, hb', _⟩ := hh 0 h
        rw [e, e2] at hr; cases hr; exact hb'
      have HKW : Hid (0 < ks.length → ∀ r, ku.ownBlock = some r → r < w.heap.size) := hkw
      have HKU : Hid (KSl w ku ks) := hku
      obtain ⟨kua, kuc, rfl, _⟩ := id hku
      have hzo := zeroOpW
      obtain ⟨W2, hW2⟩ : ∃ W2, W2 = wr.alloc (.cells #[.bool rst, .string add, .int .i64 arm, .slice kua ks.length kuc] 39) := ⟨_, rfl⟩
      have HB2 : Hid (Below wr.heap.size wr W2) := by rw [hW2]; exact (Below.refl _ _).alloc (Nat.le_refl _) _
      have hnew : W2.heap[wr.heap.size]? = some (.cells #[.bool rst, .string add, .int .i64 arm, .slice kua ks.length kuc] 39 (0, 0)) := by rw [hW2]; exact heap_alloc_new wr _
      have hsz2 : wr.heap.size < W2.heap.size := by rw [hW2]; simp
      obtain ⟨H1, hH1⟩ : ∃ H1 : Nat → Prop, H1 = fun k => (k < w.heap.size ∨ (Value.slice ua rs.length uc).ownBlock = some k) ∨ wr.heap.size ≤ k ∧ k < W2.heap.size := ⟨_, rfl⟩
      have HH1 : Hid (H1 wr.heap.size ∧ (∀ k, k < w.heap.size → H1 k) ∧ ∀ r, (Value.slice ua rs.length uc).ownBlock = some r → H1 r) := by
        unfold Hid; rw [hH1]; exact ⟨.inr ⟨Nat.le_refl _, hsz2⟩, fun k hk => .inl (.inl hk), fun r hr => .inl (.inr hr)⟩
      have HL2 : Hid (LH W2 lb d S H1 rs tn) := by unfold Hid; rw [hH1]; exact HLr.out.more HB2.out
      have HU2 : Hid (RH W2 H1 (.slice ua rs.length uc) rs) := ⟨HWr.out.below HB2.out, HH1.out.2.2⟩
      have HK2 : Hid (Keeps (fun k => k < w.heap.size) w W2) := HK.out.trans (Keeps.of_below HB2.out (fun k hk => Nat.lt_of_lt_of_le hk HK.out.size))
      have HBX : Hid (W2.heap[wr.heap.size]? = some (.cells #[.bool rst, .string add, .int .i64 arm, .slice kua ks.length kuc] 39 (0, 0))) := hnew
      clear hku hkw hnew hH1 HLr HWr HB2
      have HAR : Hid (Calls Try.prog _ _ _ _) := harm arm W2 HL2.out ha0 ha1
      go_wp2_with fail
      rw [← hW2]
      refine HAR.out.mono ?_
      clear hW2
      rintro e w3 ⟨rfl, hl3, hk3⟩
      have HL3 : Hid (LH w3 lb d { S with left := arm } H1 rs tn) := hl3
      have HU3 : Hid (RH w3 H1 (.slice ua rs.length uc) rs) := HU2.out.keeps hk3
      have HK3 : Hid (Keeps (fun k => k < w.heap.size) w w3) := HK2.out.trans (hk3.mono HH1.out.2.1)
      have HBX3 : Hid (w3.heap[wr.heap.size]? = some (.cells #[.bool rst, .string add, .int .i64 arm, .slice kua ks.length kuc] 39 (0, 0))) := (hk3.block _ HH1.out.1).trans HBX.out
      clear hl3 hk3 HAR HL2 HU2 HK2 HBX c0 c1 c2 c3 hzo
      have hba : Below w3.heap.size w3 (w3.alloc (.cells #[] 9)) := (Below.refl _ _).alloc (Nat.le_refl _) _
      obtain ⟨WN, hWN⟩ : ∃ WN, WN = w3.alloc (.cells #[] 9) := ⟨_, rfl⟩
      have HWN : Hid (w3.alloc (.cells #[] 9) = WN) := hWN.symm
      obtain ⟨H2, hH2⟩ : ∃ H2 : Nat → Prop, H2 = fun k => H1 k ∨ w3.heap.size ≤ k ∧ k < WN.heap.size := ⟨_, rfl⟩
      have hszN : w3.heap.size < WN.heap.size := by rw [hWN]; simp
      have HLN : Hid (LH WN lb d { S with left := arm } H2 rs tn) := by unfold Hid; rw [hH2, hWN]; exact HL3.out.more hba
      have HH2 : Hid (H2 wr.heap.size ∧ (∀ k, k < w.heap.size → H2 k) ∧ (∀ k, H1 k → H2 k) ∧ H2 w3.heap.size) := by
        unfold Hid; rw [hH2]; exact ⟨.inl HH1.out.1, fun k hk => .inl (HH1.out.2.1 k hk), fun k hk => .inl hk, .inr ⟨Nat.le_refl _, hszN⟩⟩
      have HUN : Hid (RH WN H2 (.slice ua rs.length uc) rs) := by unfold Hid; rw [hWN]; exact (HU3.out.below hba).up HH2.out.2.2.1
      have HKN : Hid (Keeps (fun k => k < w.heap.size) w WN) := by unfold Hid; rw [hWN]; exact HK3.out.trans (Keeps.of_below hba (fun k hk => Nat.lt_of_lt_of_le hk HK3.out.size))
      have hlt3 : wr.heap.size < w3.heap.size := (Array.getElem?_eq_some_iff.1 HBX3.out).1
      have HBXN : Hid (WN.heap[wr.heap.size]? = some (.cells #[.bool rst, .string add, .int .i64 arm, .slice kua ks.length kuc] 39 (0, 0))) := by unfold Hid; rw [hWN]; exact (hba.block _ hlt3).trans HBX3.out
      have HNX : Hid (OS WN w3.heap.size (.slice (some ⟨w3.heap.size, 0, none⟩) 0 0) []) := by unfold Hid; rw [hWN]; exact OS.empty w3
      have e0 : (w3.alloc (.cells #[] 9)).cell? ⟨wr.heap.size, 0, none⟩ = some (.bool rst) := by rw [← hWN]; unfold World.cell?; rw [HBXN.out]; rfl
      have e1 : (w3.alloc (.cells #[] 9)).cell? ⟨wr.heap.size, 1, none⟩ = some (.string add) := by rw [← hWN]; unfold World.cell?; rw [HBXN.out]; rfl
      have g0 : w3.cell? ⟨wr.heap.size, 0, none⟩ = some (.bool rst) := by unfold World.cell?; rw [HBX3.out]; rfl
      have g1 : w3.cell? ⟨wr.heap.size, 1, none⟩ = some (.string add) := by unfold World.cell?; rw [HBX3.out]; rfl
      have HUL : Hid (∀ r, (Value.slice ua rs.length uc).ownBlock = some r → r < w3.heap.size) := fun r hr => (own_lt HU3.out.1 hr).1
      clear hba hWN hH2 HL3 HU3 HK3 hszN hsz2
      cases rst with
      | true =>
        have HRS : Hid (Calls Try.prog _ _ _ _) := hreset arm WN HLN.out HLWr.out
        go_wp2_with fail
        rw [show w3.alloc (.cells #[] 9) = WN from HWN.out]
        refine HRS.out.mono ?_
        rintro e WT ⟨z, g, gs2, rfl, hga, hgo, hzg, hlT, hkT⟩
        have hcp : CrP (z, gs2) ks o 1048576 10000 rs [] := by
          rw [hzg]
          have := crash_rep (rn := []) HLWr.out HTN.out arm g hga hgo ks (by simp only [List.length_append, frs_nil, List.length_nil]; omega) (by simp [frs_nil])
          rwa [frs_nil] at this
        have HCP : Hid (CrP (z, gs2) ks o 1048576 10000 rs []) := hcp
        have HLT : Hid (∃ r1 t1, LH WT lb d gs2 H2 r1 t1) := ⟨_, _, hlT⟩
        have HUT : Hid (RH WT H2 (.slice ua rs.length uc) rs) := HUN.out.keeps hkT
        have HNT : Hid (RH WT H2 (.slice (some ⟨w3.heap.size, 0, none⟩) 0 0) []) := RH.keeps (H := H2) ⟨HNX.out.mono (Nat.zero_le _), fun r hr => by cases hr; exact HH2.out.2.2.2⟩ hkT
        have HKT : Hid (Keeps (fun k => k < w.heap.size) w WT) := HKN.out.trans (hkT.mono HH2.out.2.1)
        have HBT : Hid (WT.heap[wr.heap.size]? = some (.cells #[.bool true, .string add, .int .i64 arm, .slice kua ks.length kuc] 39 (0, 0))) := (hkT.block _ HH2.out.1).trans HBXN.out
        have HHT : Hid (H2 wr.heap.size ∧ ∀ k, k < w.heap.size → H2 k) := ⟨HH2.out.1, HH2.out.2.1⟩
        have HRN : Hid (([] : List (List UInt8)).length ≤ i + 1 ∧ ∀ r ∈ ([] : List (List UInt8)), r.length ≤ 300) := ⟨by simp, fun r hr => by cases hr⟩
        clear hzg hlT hkT hcp HRS HLN HUN HKN HBXN HBX3 HNX HH1 HH2 HWN e0 e1 g0 g1
        obtain ⟨va, hva⟩ : ∃ va, va = some (⟨w3.heap.size, 0, none⟩ : Addr) := ⟨_, rfl⟩
        have HVA : Hid (some (⟨w3.heap.size, 0, none⟩ : Addr) = va) := hva.symm
        rw [← hva] at HNT
        clear hva
        rw [show some (⟨w3.heap.size, 0, none⟩ : Addr) = va from HVA.out]
        rcases HCP.out.z with hz | hz
        · simp only at hz
          subst hz
          have HAM : Hid (∃ r1 t1, LH WT lb d gs2 H2 r1 t1) := HLT.out
          obtain ⟨r1, t1, hlt⟩ := HAM.out
          have HA1 : Hid (Calls Try.prog _ _ _ _) := harm (-1) WT hlt (by decide) (by decide)
          clear hlt HAM
          try go_wp2_with fail
          refine HA1.out.mono ?_
          rintro e w6 ⟨rfl, hl6, hk6⟩
          have HL6 : Hid (LH w6 lb d { gs2 with left := -1 } H2 r1 t1) := hl6
          have HU6 : Hid (RH w6 H2 (.slice ua rs.length uc) rs) := HUT.out.keeps hk6
          have HN6 : Hid (RH w6 H2 (.slice va 0 0) []) := HNT.out.keeps hk6
          have HK6 : Hid (Keeps (fun k => k < w.heap.size) w w6) := HKT.out.trans (hk6.mono HHT.out.2)
          have hb6 := (hk6.block _ HHT.out.1).trans HBT.out
          have q3 : w6.cell? ⟨wr.heap.size, 3, none⟩ = some (.slice kua ks.length kuc) := by unfold World.cell?; rw [hb6]; rfl
          have HC6 : Hid (Calls Try.prog _ _ _ _) := hcrash ks (.slice kua ks.length kuc) w6 hl6 (HKU.out.keeps HK6.out HKW.out) (fun h r hr => HHT.out.2 r (HKW.out h r hr)) (by have := HCP.out.len; simp only at this ⊢; omega)
          rw [crS_left] at HC6
          clear hl6 hk6 hb6 HA1
          go_wp2_with fail
          refine HC6.out.mono ?_
          rintro e w7 ⟨rfl, hl7, hk7⟩
          obtain ⟨T', a', rs', t', hlw', htn', hrr⟩ := HCP.out.left
          have HL7 : Hid (LH w7 lb d (crS gs2 ks) H2 r1 t1) := hl7
          have HU7 : Hid (RH w7 H2 (.slice ua rs.length uc) rs) := HU6.out.keeps hk7
          have HN7 : Hid (RH w7 H2 (.slice va 0 0) []) := HN6.out.keeps hk7
          have HK7 : Hid (Keeps (fun k => k < w.heap.size) w w7) := HK6.out.trans (hk7.mono HHT.out.2)
          have HLW7 : Hid (LW (crS gs2 ks) T' a' (frs rs' ++ t') o 1048576 10000) := hlw'
          have HTN7 : Hid (TornB t') := htn'
          have HRR : Hid (rs' = [] ∨ (0 : Int) = 10 ∧ rs' = rs) := hrr
          have HRS' : Hid (rs'.length ≤ i + 1 ∧ ∀ r ∈ rs', r.length ≤ 300) := by
            rcases hrr with rfl | ⟨_, rfl⟩
            · exact HRN.out
            · exact ⟨by omega, HR3.out⟩
          have HOP7 : Hid (Calls Try.prog _ _ _ _) := hopen w7 hl7 hlw' (fun r hr => by have := HRS'.out.2 r hr; omega) (by have := HRS'.out.1; omega) htn'
          clear hl7 hk7 hlw' htn' hrr HC6 HL6 HU6 HN6 HK6 q3
          generalize crS gs2 ks = S7 at *
          go_wp2_with fail
          refine HOP7.out.mono ?_
          rintro e w8 ⟨lb', rfl, hl8, hlb8, hb8⟩
          have HL8 : Hid (LH w8 lb' d S7 H2 rs' (decide (0 < t'.length))) := hl8
          have HU8 : Hid (RH w8 H2 (.slice ua rs.length uc) rs) := HU7.out.below hb8
          have HN8 : Hid (RH w8 H2 (.slice va 0 0) []) := HN7.out.below hb8
          have HK8 : Hid (Keeps (fun k => k < w.heap.size) w w8) := HK7.out.trans (Keeps.of_below hb8 (fun k hk => Nat.lt_of_lt_of_le hk HK7.out.size))
          have HOT : Hid (Calls Try.prog _ _ _ _) := hothers w8 hl8 HLW7.out
          clear hl8 hlb8 hb8 HOP7 HL7 HU7 HN7 HK7
          generalize decide (0 < t'.length) = tn' at *
          go_wp2_with fail
          refine HOT.out.mono ?_
          rintro e w9 ⟨rfl, hb9⟩
          have HL9 : Hid (LH w9 lb' d S7 H2 rs' tn') := HL8.out.below hb9
          have HU9 : Hid (RH w9 H2 (.slice ua rs.length uc) rs) := HU8.out.below hb9
          have HN9 : Hid (RH w9 H2 (.slice va 0 0) []) := HN8.out.below hb9
          have HK9 : Hid (Keeps (fun k => k < w.heap.size) w w9) := HK8.out.trans (Keeps.of_below hb9 (fun k hk => Nat.lt_of_lt_of_le hk HK8.out.size))
          have HSA0 := hsame w9 HL9.out HN9.out (by have := HRS'.out.1; omega) (by have := HRN.out.1; omega)
          clear hb9 HOT HL8 HU8 HN8 HK8
          have hrq : rs' = [] := by
            rcases HRR.out with h | ⟨h, _⟩
            · exact h
            · exact absurd h (by decide)
          rw [decide_eq_true hrq] at HSA0
          have HSA : Hid (Calls Try.prog _ _ _ _) := HSA0
          clear HSA0
          go_wp2_with fail
          refine HSA.out.mono ?_
          rintro e w10 ⟨rfl, hb10⟩
          have HL10 : Hid (LH w10 lb' d S7 H2 rs' tn') := HL9.out.below hb10
          have HK10 : Hid (Keeps (fun k => k < w.heap.size) w w10) := HK9.out.trans (Keeps.of_below hb10 (fun k hk => Nat.lt_of_lt_of_le hk HK9.out.size))
          clear hb10 HSA HL9
          have HRC : Hid (Calls Try.prog _ _ _ _) := hrecs w10 HL10.out (by have := HRS'.out.1; omega)
          go_wp2_with fail
          refine HRC.out.mono ?_
          rintro e wZ ⟨vz, rfl, hOz, hbz⟩
          have HKZ : Hid (Keeps (fun k => k < w.heap.size) w wZ) := HK10.out.trans (Keeps.of_below hbz (fun k hk => Nat.lt_of_lt_of_le hk HK10.out.size))
          have HLZ : Hid (LH wZ lb' d S7 (fun k => k < w.heap.size ∨ vz.ownBlock = some k) rs' tn') := (HL10.out.more hbz).less (fun k hk => by
            rcases hk with hk | hk
            · exact .inl (HHT.out.2 k hk)
            · exact .inr (hOz.lt k hk))
          have HOZ : Hid (OS wZ 0 vz rs') := hOz.mono (Nat.zero_le _)
          clear hOz hbz HRC HL10 HK10
          go_wp2
          go_roundw
          case rel => exact ⟨i + 1, rs', S7, T', a', lb', t', tn', by omega, by omega, by go_num, rfl, HRS'.out.1, HRS'.out.2, HTN7.out, HLZ.out, HOZ.out, HLW7.out, HKZ.out⟩
          case measure => simp [intOf]; omega
        · simp only at hz
          subst hz
          have HAM : Hid (∃ r1 t1, LH WT lb d gs2 H2 r1 t1) := HLT.out
          obtain ⟨r1, t1, hlt⟩ := HAM.out
          have HA1 : Hid (Calls Try.prog _ _ _ _) := harm (-1) WT hlt (by decide) (by decide)
          clear hlt HAM
          try go_wp2_with fail
          refine HA1.out.mono ?_
          rintro e w6 ⟨rfl, hl6, hk6⟩
          have HL6 : Hid (LH w6 lb d { gs2 with left := -1 } H2 r1 t1) := hl6
          have HU6 : Hid (RH w6 H2 (.slice ua rs.length uc) rs) := HUT.out.keeps hk6
          have HN6 : Hid (RH w6 H2 (.slice va 0 0) []) := HNT.out.keeps hk6
          have HK6 : Hid (Keeps (fun k => k < w.heap.size) w w6) := HKT.out.trans (hk6.mono HHT.out.2)
          have hb6 := (hk6.block _ HHT.out.1).trans HBT.out
          have q3 : w6.cell? ⟨wr.heap.size, 3, none⟩ = some (.slice kua ks.length kuc) := by unfold World.cell?; rw [hb6]; rfl
          have HC6 : Hid (Calls Try.prog _ _ _ _) := hcrash ks (.slice kua ks.length kuc) w6 hl6 (HKU.out.keeps HK6.out HKW.out) (fun h r hr => HHT.out.2 r (HKW.out h r hr)) (by have := HCP.out.len; simp only at this ⊢; omega)
          rw [crS_left] at HC6
          clear hl6 hk6 hb6 HA1
          go_wp2_with fail
          refine HC6.out.mono ?_
          rintro e w7 ⟨rfl, hl7, hk7⟩
          obtain ⟨T', a', rs', t', hlw', htn', hrr⟩ := HCP.out.left
          have HL7 : Hid (LH w7 lb d (crS gs2 ks) H2 r1 t1) := hl7
          have HU7 : Hid (RH w7 H2 (.slice ua rs.length uc) rs) := HU6.out.keeps hk7
          have HN7 : Hid (RH w7 H2 (.slice va 0 0) []) := HN6.out.keeps hk7
          have HK7 : Hid (Keeps (fun k => k < w.heap.size) w w7) := HK6.out.trans (hk7.mono HHT.out.2)
          have HLW7 : Hid (LW (crS gs2 ks) T' a' (frs rs' ++ t') o 1048576 10000) := hlw'
          have HTN7 : Hid (TornB t') := htn'
          have HRR : Hid (rs' = [] ∨ (10 : Int) = 10 ∧ rs' = rs) := hrr
          have HRS' : Hid (rs'.length ≤ i + 1 ∧ ∀ r ∈ rs', r.length ≤ 300) := by
            rcases hrr with rfl | ⟨_, rfl⟩
            · exact HRN.out
            · exact ⟨by omega, HR3.out⟩
          have HOP7 : Hid (Calls Try.prog _ _ _ _) := hopen w7 hl7 hlw' (fun r hr => by have := HRS'.out.2 r hr; omega) (by have := HRS'.out.1; omega) htn'
          clear hl7 hk7 hlw' htn' hrr HC6 HL6 HU6 HN6 HK6 q3
          generalize crS gs2 ks = S7 at *
          go_wp2_with fail
          refine HOP7.out.mono ?_
          rintro e w8 ⟨lb', rfl, hl8, hlb8, hb8⟩
          have HL8 : Hid (LH w8 lb' d S7 H2 rs' (decide (0 < t'.length))) := hl8
          have HU8 : Hid (RH w8 H2 (.slice ua rs.length uc) rs) := HU7.out.below hb8
          have HN8 : Hid (RH w8 H2 (.slice va 0 0) []) := HN7.out.below hb8
          have HK8 : Hid (Keeps (fun k => k < w.heap.size) w w8) := HK7.out.trans (Keeps.of_below hb8 (fun k hk => Nat.lt_of_lt_of_le hk HK7.out.size))
          have HOT : Hid (Calls Try.prog _ _ _ _) := hothers w8 hl8 HLW7.out
          clear hl8 hlb8 hb8 HOP7 HL7 HU7 HN7 HK7
          generalize decide (0 < t'.length) = tn' at *
          go_wp2_with fail
          refine HOT.out.mono ?_
          rintro e w9 ⟨rfl, hb9⟩
          have HL9 : Hid (LH w9 lb' d S7 H2 rs' tn') := HL8.out.below hb9
          have HU9 : Hid (RH w9 H2 (.slice ua rs.length uc) rs) := HU8.out.below hb9
          have HN9 : Hid (RH w9 H2 (.slice va 0 0) []) := HN8.out.below hb9
          have HK9 : Hid (Keeps (fun k => k < w.heap.size) w w9) := HK8.out.trans (Keeps.of_below hb9 (fun k hk => Nat.lt_of_lt_of_le hk HK8.out.size))
          have HSA0 := hsame w9 HL9.out HN9.out (by have := HRS'.out.1; omega) (by have := HRN.out.1; omega)
          clear hb9 HOT HL8 HU8 HN8 HK8
          by_cases hrq : rs' = []
          · rw [decide_eq_true hrq] at HSA0
            have HSA : Hid (Calls Try.prog _ _ _ _) := HSA0
            clear HSA0
            go_wp2_with fail
            refine HSA.out.mono ?_
            rintro e w10 ⟨rfl, hb10⟩
            have HL10 : Hid (LH w10 lb' d S7 H2 rs' tn') := HL9.out.below hb10
            have HK10 : Hid (Keeps (fun k => k < w.heap.size) w w10) := HK9.out.trans (Keeps.of_below hb10 (fun k hk => Nat.lt_of_lt_of_le hk HK9.out.size))
            clear hb10 HSA HL9
            have HRC : Hid (Calls Try.prog _ _ _ _) := hrecs w10 HL10.out (by have := HRS'.out.1; omega)
            go_wp2_with fail
            refine HRC.out.mono ?_
            rintro e wZ ⟨vz, rfl, hOz, hbz⟩
            have HKZ : Hid (Keeps (fun k => k < w.heap.size) w wZ) := HK10.out.trans (Keeps.of_below hbz (fun k hk => Nat.lt_of_lt_of_le hk HK10.out.size))
            have HLZ : Hid (LH wZ lb' d S7 (fun k => k < w.heap.size ∨ vz.ownBlock = some k) rs' tn') := (HL10.out.more hbz).less (fun k hk => by
              rcases hk with hk | hk
              · exact .inl (HHT.out.2 k hk)
              · exact .inr (hOz.lt k hk))
            have HOZ : Hid (OS wZ 0 vz rs') := hOz.mono (Nat.zero_le _)
            clear hOz hbz HRC HL10 HK10
            go_wp2
            go_roundw
            case rel => exact ⟨i + 1, rs', S7, T', a', lb', t', tn', by omega, by omega, by go_num, rfl, HRS'.out.1, HRS'.out.2, HTN7.out, HLZ.out, HOZ.out, HLW7.out, HKZ.out⟩
            case measure => simp [intOf]; omega
          · have hrq2 : rs' = rs := by
              rcases HRR.out with h | ⟨_, h⟩
              · exact absurd h hrq
              · exact h
            rw [decide_eq_false hrq] at HSA0
            have HUW : Hid (RH w9 H2 (.slice ua rs.length uc) rs) := HU9.out
            have HSA : Hid (Calls Try.prog _ _ _ _) := HSA0
            clear HSA0
            go_wp2_with fail
            refine HSA.out.mono ?_
            rintro e w10 ⟨rfl, hb10⟩
            have HL10 : Hid (LH w10 lb' d S7 H2 rs' tn') := HL9.out.below hb10
            have HK10 : Hid (Keeps (fun k => k < w.heap.size) w w10) := HK9.out.trans (Keeps.of_below hb10 (fun k hk => Nat.lt_of_lt_of_le hk HK9.out.size))
            have HUW10 : Hid (RH w10 H2 (.slice ua rs.length uc) rs) := HUW.out.below hb10
            clear hb10 HSA HL9
            have HU10 : Hid (RH w10 H2 (.slice ua rs.length uc) rs) := HUW10.out
            have HSB0 := hsame w10 HL10.out HU10.out (by have := HRS'.out.1; omega) (by omega)
            rw [decide_eq_true hrq2] at HSB0
            have HSB : Hid (Calls Try.prog _ _ _ _) := HSB0
            clear HSB0 hrq hrq2
            go_wp2_with fail
            refine HSB.out.mono ?_
            rintro e w11 ⟨rfl, hb11⟩
            have HL11 : Hid (LH w11 lb' d S7 H2 rs' tn') := HL10.out.below hb11
            have HK11 : Hid (Keeps (fun k => k < w.heap.size) w w11) := HK10.out.trans (Keeps.of_below hb11 (fun k hk => Nat.lt_of_lt_of_le hk HK10.out.size))
            clear hb11 HSB HL10
            have HRC : Hid (Calls Try.prog _ _ _ _) := hrecs w11 HL11.out (by have := HRS'.out.1; omega)
            go_wp2_with fail
            refine HRC.out.mono ?_
            rintro e wZ ⟨vz, rfl, hOz, hbz⟩
            have HKZ : Hid (Keeps (fun k => k < w.heap.size) w wZ) := HK11.out.trans (Keeps.of_below hbz (fun k hk => Nat.lt_of_lt_of_le hk HK11.out.size))
            have HLZ : Hid (LH wZ lb' d S7 (fun k => k < w.heap.size ∨ vz.ownBlock = some k) rs' tn') := (HL11.out.more hbz).less (fun k hk => by
              rcases hk with hk | hk
              · exact .inl (HHT.out.2 k hk)
              · exact .inr (hOz.lt k hk))
            have HOZ : Hid (OS wZ 0 vz rs') := hOz.mono (Nat.zero_le _)
            clear hOz hbz HRC HL11 HK11
            go_wp2
            go_roundw
            case rel => exact ⟨i + 1, rs', S7, T', a', lb', t', tn', by omega, by omega, by go_num, rfl, HRS'.out.1, HRS'.out.2, HTN7.out, HLZ.out, HOZ.out, HLW7.out, HKZ.out⟩
            case measure => simp [intOf]; omega
      | false =>
        go_wp2_with fail
        rw [show w3.alloc (.cells #[] 9) = WN from HWN.out]
        refine (few_any add 300 WN (by decide) hadL).mono ?_
        rintro e w9 ⟨rfl, e9⟩
        have e10 := e9.symm
        subst e10
        clear e9
        rw [show (300 : Int).toNat = 300 from rfl]
        have hZs0 := few_size add 300
        generalize add.extract 0 300 = Z at *
        have hZs : Z.size ≤ 300 := by omega
        clear hZs0
        obtain ⟨zl, hzl⟩ : ∃ zl, zl = Z.data.toList := ⟨_, rfl⟩
        have hZe : Z = mkT zl := by rw [hzl, mkT_self]
        have hzl3 : zl.length ≤ 300 := by rw [hzl, size_toList]; exact hZs
        subst hZe
        clear hzl
        have HA : Hid (Calls Try.prog _ _ _ _) := hadd (rs := rs) (t := t) arm zl WN HLN.out HLWr.out (fun r hr => by have := HR3.out r hr; omega) (by omega) HTN.out (by omega)
        clear e0 e1 g0 g1
        go_wp2_with fail
        refine HA.out.mono ?_
        rintro e w4 ⟨z, g, gs2, rfl, hga, hgo, hzg, hlT, hkT⟩
        have hcp : CrP (z, gs2) ks o 1048576 10000 rs (rs ++ [zl]) := by
          rw [hzg]
          by_cases h0 : t = []
          · rw [if_pos h0]
            have hq : frs rs ++ t = frs rs := by rw [h0, List.append_nil]
            have hlw := HLWr.out
            rw [hq] at hlw
            exact crash_ext hlw arm zl (by omega) g ks (by omega)
          · rw [if_neg h0]
            have := crash_rep (rn := rs ++ [zl]) HLWr.out HTN.out arm g hga hgo ks (by rw [frs_snoc]; simp only [List.length_append, frm_len]; omega) (by rw [frs_snoc, List.length_append, frm_len]; omega)
            rwa [frs_snoc] at this
        have HCP : Hid (CrP (z, gs2) ks o 1048576 10000 rs (rs ++ [zl])) := hcp
        have HL4 : Hid (∃ r1 t1, LH w4 lb d gs2 H2 r1 t1) := ⟨_, _, hlT⟩
        have HU4 : Hid (RH w4 H2 (.slice ua rs.length uc) rs) := HUN.out.keeps hkT
        have HO4 : Hid (OS w4 w3.heap.size (.slice (some ⟨w3.heap.size, 0, none⟩) 0 0) []) := own_kept HNX.out (fun r hr => hkT.block r (by cases hr; exact HH2.out.2.2.2))
        have HK4 : Hid (Keeps (fun k => k < w.heap.size) w w4) := HKN.out.trans (hkT.mono HH2.out.2.1)
        have HB4 : Hid (w4.heap[wr.heap.size]? = some (.cells #[.bool false, .string add, .int .i64 arm, .slice kua ks.length kuc] 39 (0, 0))) := (hkT.block _ HH2.out.1).trans HBXN.out
        have hsz4 : w3.heap.size ≤ w4.heap.size := by
          have h1 := HLN.out.Hb w3.heap.size HH2.out.2.2.2
          have h2 := hkT.size
          omega
        have HSW : Hid (w.heap.size ≤ w3.heap.size) := by have := HK.out.size; unfold Hid; omega
        clear hzg hlT hkT hcp HA HLN HUN HKN HBXN HBX3 HNX HWN
        rcases HCP.out.z with hz | hz
        · simp only at hz
          subst hz
          go_wp2_with (at_builtin; refine append_os rfl _ _ rfl w3.heap.size 0 (.slice (some ⟨w3.heap.size, 0, none⟩) 0 0) (.slice ua rs.length uc) [] rs rfl rfl HO4.out HU4.out.1 (by simp; omega) hsz4 ?_; intro vx w5 hO5 hg5 hr5; obtain ⟨xa, xc, rfl⟩ := hO5.shape; rw [List.nil_append] at hO5 hr5; have HS5 := cr_grow2 (H := H2) HL4.out HU4.out HK4.out HB4.out HH2.out.1 HH2.out.2.1 (fun r hr => by cases hr; exact HH2.out.2.2.2) HSW.out hg5 hO5 (grow_at hr5 hO5) (fun r hr => by cases hr; exact Nat.le_refl _) hlt3 HUL.out; obtain ⟨H3, HL5, HU5, HK5, HB5, hx1, hx2, HN5⟩ := HS5; have HO5 : Hid (OS w5 w3.heap.size (.slice xa rs.length xc) rs) := hO5; have hsz5 : w3.heap.size ≤ w5.heap.size := Nat.le_trans hsz4 hg5.size; clear hO5 hg5 hr5; go_wp2_with (at_builtin; refine append_one rfl _ _ rfl w3.heap.size (.slice xa rs.length xc) rs zl rfl rfl HO5.out (by omega) hsz5 ?_; intro va c' WT hO6 hg6 hr6; have HS6 := cr_grow2 (H := H3) HL5.out HU5.out HK5.out HB5.out hx1 hx2 HN5.out.2 HSW.out hg6 hO6 hr6 (fun r hr => (HO5.out.lt r hr).1) hlt3 HUL.out; obtain ⟨H4, HLT, HUT, HKT, HBT, hy1, hy2, HNT⟩ := HS6; clear hO6 hg6 hr6; try go_wp2_with fail))
          have HRN : Hid ((rs ++ [zl]).length ≤ i + 1 ∧ ∀ r ∈ rs ++ [zl], r.length ≤ 300) := ⟨by simp; omega, mem_snoc_le HR3.out hzl3⟩
          have HHT : Hid (H4 wr.heap.size ∧ ∀ k, k < w.heap.size → H4 k) := ⟨hy1, hy2⟩
          clear hy1 hy2 HH1 HH2
          have HAM : Hid (∃ r1 t1, LH WT lb d gs2 H4 r1 t1) := HLT.out
          obtain ⟨r1, t1, hlt⟩ := HAM.out
          have HA1 : Hid (Calls Try.prog _ _ _ _) := harm (-1) WT hlt (by decide) (by decide)
          clear hlt HAM
          try go_wp2_with fail
          refine HA1.out.mono ?_
          rintro e w6 ⟨rfl, hl6, hk6⟩
          have HL6 : Hid (LH w6 lb d { gs2 with left := -1 } H4 r1 t1) := hl6
          have HU6 : Hid (RH w6 H4 (.slice ua rs.length uc) rs) := HUT.out.keeps hk6
          have HN6 : Hid (RH w6 H4 (.slice va (rs.length + 1) c') (rs ++ [zl])) := HNT.out.keeps hk6
          have HK6 : Hid (Keeps (fun k => k < w.heap.size) w w6) := HKT.out.trans (hk6.mono HHT.out.2)
          have hb6 := (hk6.block _ HHT.out.1).trans HBT.out
          have q3 : w6.cell? ⟨wr.heap.size, 3, none⟩ = some (.slice kua ks.length kuc) := by unfold World.cell?; rw [hb6]; rfl
          have HC6 : Hid (Calls Try.prog _ _ _ _) := hcrash ks (.slice kua ks.length kuc) w6 hl6 (HKU.out.keeps HK6.out HKW.out) (fun h r hr => HHT.out.2 r (HKW.out h r hr)) (by have := HCP.out.len; simp only at this ⊢; omega)
          rw [crS_left] at HC6
          clear hl6 hk6 hb6 HA1
          go_wp2_with fail
          refine HC6.out.mono ?_
          rintro e w7 ⟨rfl, hl7, hk7⟩
          obtain ⟨T', a', rs', t', hlw', htn', hrr⟩ := HCP.out.left
          have HL7 : Hid (LH w7 lb d (crS gs2 ks) H4 r1 t1) := hl7
          have HU7 : Hid (RH w7 H4 (.slice ua rs.length uc) rs) := HU6.out.keeps hk7
          have HN7 : Hid (RH w7 H4 (.slice va (rs.length + 1) c') (rs ++ [zl])) := HN6.out.keeps hk7
          have HK7 : Hid (Keeps (fun k => k < w.heap.size) w w7) := HK6.out.trans (hk7.mono HHT.out.2)
          have HLW7 : Hid (LW (crS gs2 ks) T' a' (frs rs' ++ t') o 1048576 10000) := hlw'
          have HTN7 : Hid (TornB t') := htn'
          have HRR : Hid (rs' = (rs ++ [zl]) ∨ (0 : Int) = 10 ∧ rs' = rs) := hrr
          have HRS' : Hid (rs'.length ≤ i + 1 ∧ ∀ r ∈ rs', r.length ≤ 300) := by
            rcases hrr with rfl | ⟨_, rfl⟩
            · exact HRN.out
            · exact ⟨by omega, HR3.out⟩
          have HOP7 : Hid (Calls Try.prog _ _ _ _) := hopen w7 hl7 hlw' (fun r hr => by have := HRS'.out.2 r hr; omega) (by have := HRS'.out.1; omega) htn'
          clear hl7 hk7 hlw' htn' hrr HC6 HL6 HU6 HN6 HK6 q3
          generalize crS gs2 ks = S7 at *
          go_wp2_with fail
          refine HOP7.out.mono ?_
          rintro e w8 ⟨lb', rfl, hl8, hlb8, hb8⟩
          have HL8 : Hid (LH w8 lb' d S7 H4 rs' (decide (0 < t'.length))) := hl8
          have HU8 : Hid (RH w8 H4 (.slice ua rs.length uc) rs) := HU7.out.below hb8
          have HN8 : Hid (RH w8 H4 (.slice va (rs.length + 1) c') (rs ++ [zl])) := HN7.out.below hb8
          have HK8 : Hid (Keeps (fun k => k < w.heap.size) w w8) := HK7.out.trans (Keeps.of_below hb8 (fun k hk => Nat.lt_of_lt_of_le hk HK7.out.size))
          have HOT : Hid (Calls Try.prog _ _ _ _) := hothers w8 hl8 HLW7.out
          clear hl8 hlb8 hb8 HOP7 HL7 HU7 HN7 HK7
          generalize decide (0 < t'.length) = tn' at *
          go_wp2_with fail
          refine HOT.out.mono ?_
          rintro e w9 ⟨rfl, hb9⟩
          have HL9 : Hid (LH w9 lb' d S7 H4 rs' tn') := HL8.out.below hb9
          have HU9 : Hid (RH w9 H4 (.slice ua rs.length uc) rs) := HU8.out.below hb9
          have HN9 : Hid (RH w9 H4 (.slice va (rs.length + 1) c') (rs ++ [zl])) := HN8.out.below hb9
          have HK9 : Hid (Keeps (fun k => k < w.heap.size) w w9) := HK8.out.trans (Keeps.of_below hb9 (fun k hk => Nat.lt_of_lt_of_le hk HK8.out.size))
          have HSA0 := hsame w9 HL9.out HN9.out (by have := HRS'.out.1; omega) (by have := HRN.out.1; omega)
          clear hb9 HOT HL8 HU8 HN8 HK8
          have hrq : rs' = (rs ++ [zl]) := by
            rcases HRR.out with h | ⟨h, _⟩
            · exact h
            · exact absurd h (by decide)
          rw [decide_eq_true hrq] at HSA0
          have HSA : Hid (Calls Try.prog _ _ _ _) := HSA0
          clear HSA0
          go_wp2_with fail
          refine HSA.out.mono ?_
          rintro e w10 ⟨rfl, hb10⟩
          have HL10 : Hid (LH w10 lb' d S7 H4 rs' tn') := HL9.out.below hb10
          have HK10 : Hid (Keeps (fun k => k < w.heap.size) w w10) := HK9.out.trans (Keeps.of_below hb10 (fun k hk => Nat.lt_of_lt_of_le hk HK9.out.size))
          clear hb10 HSA HL9
          have HRC : Hid (Calls Try.prog _ _ _ _) := hrecs w10 HL10.out (by have := HRS'.out.1; omega)
          go_wp2_with fail
          refine HRC.out.mono ?_
          rintro e wZ ⟨vz, rfl, hOz, hbz⟩
          have HKZ : Hid (Keeps (fun k => k < w.heap.size) w wZ) := HK10.out.trans (Keeps.of_below hbz (fun k hk => Nat.lt_of_lt_of_le hk HK10.out.size))
          have HLZ : Hid (LH wZ lb' d S7 (fun k => k < w.heap.size ∨ vz.ownBlock = some k) rs' tn') := (HL10.out.more hbz).less (fun k hk => by
            rcases hk with hk | hk
            · exact .inl (HHT.out.2 k hk)
            · exact .inr (hOz.lt k hk))
          have HOZ : Hid (OS wZ 0 vz rs') := hOz.mono (Nat.zero_le _)
          clear hOz hbz HRC HL10 HK10
          go_wp2
          go_roundw
          case rel => exact ⟨i + 1, rs', S7, T', a', lb', t', tn', by omega, by omega, by go_num, rfl, HRS'.out.1, HRS'.out.2, HTN7.out, HLZ.out, HOZ.out, HLW7.out, HKZ.out⟩
          case measure => simp [intOf]; omega
        · simp only at hz
          subst hz
          go_wp2_with (at_builtin; refine append_os rfl _ _ rfl w3.heap.size 0 (.slice (some ⟨w3.heap.size, 0, none⟩) 0 0) (.slice ua rs.length uc) [] rs rfl rfl HO4.out HU4.out.1 (by simp; omega) hsz4 ?_; intro vx w5 hO5 hg5 hr5; obtain ⟨xa, xc, rfl⟩ := hO5.shape; rw [List.nil_append] at hO5 hr5; have HS5 := cr_grow2 (H := H2) HL4.out HU4.out HK4.out HB4.out HH2.out.1 HH2.out.2.1 (fun r hr => by cases hr; exact HH2.out.2.2.2) HSW.out hg5 hO5 (grow_at hr5 hO5) (fun r hr => by cases hr; exact Nat.le_refl _) hlt3 HUL.out; obtain ⟨H3, HL5, HU5, HK5, HB5, hx1, hx2, HN5⟩ := HS5; have HO5 : Hid (OS w5 w3.heap.size (.slice xa rs.length xc) rs) := hO5; have hsz5 : w3.heap.size ≤ w5.heap.size := Nat.le_trans hsz4 hg5.size; clear hO5 hg5 hr5; go_wp2_with (at_builtin; refine append_one rfl _ _ rfl w3.heap.size (.slice xa rs.length xc) rs zl rfl rfl HO5.out (by omega) hsz5 ?_; intro va c' WT hO6 hg6 hr6; have HS6 := cr_grow2 (H := H3) HL5.out HU5.out HK5.out HB5.out hx1 hx2 HN5.out.2 HSW.out hg6 hO6 hr6 (fun r hr => (HO5.out.lt r hr).1) hlt3 HUL.out; obtain ⟨H4, HLT, HUT, HKT, HBT, hy1, hy2, HNT⟩ := HS6; clear hO6 hg6 hr6; try go_wp2_with fail))
          have HRN : Hid ((rs ++ [zl]).length ≤ i + 1 ∧ ∀ r ∈ rs ++ [zl], r.length ≤ 300) := ⟨by simp; omega, mem_snoc_le HR3.out hzl3⟩
          have HHT : Hid (H4 wr.heap.size ∧ ∀ k, k < w.heap.size → H4 k) := ⟨hy1, hy2⟩
          clear hy1 hy2 HH1 HH2
          have HAM : Hid (∃ r1 t1, LH WT lb d gs2 H4 r1 t1) := HLT.out
          obtain ⟨r1, t1, hlt⟩ := HAM.out
          have HA1 : Hid (Calls Try.prog _ _ _ _) := harm (-1) WT hlt (by decide) (by decide)
          clear hlt HAM
          try go_wp2_with fail
          refine HA1.out.mono ?_
          rintro e w6 ⟨rfl, hl6, hk6⟩
          have HL6 : Hid (LH w6 lb d { gs2 with left := -1 } H4 r1 t1) := hl6
          have HU6 : Hid (RH w6 H4 (.slice ua rs.length uc) rs) := HUT.out.keeps hk6
          have HN6 : Hid (RH w6 H4 (.slice va (rs.length + 1) c') (rs ++ [zl])) := HNT.out.keeps hk6
          have HK6 : Hid (Keeps (fun k => k < w.heap.size) w w6) := HKT.out.trans (hk6.mono HHT.out.2)
          have hb6 := (hk6.block _ HHT.out.1).trans HBT.out
          have q3 : w6.cell? ⟨wr.heap.size, 3, none⟩ = some (.slice kua ks.length kuc) := by unfold World.cell?; rw [hb6]; rfl
          have HC6 : Hid (Calls Try.prog _ _ _ _) := hcrash ks (.slice kua ks.length kuc) w6 hl6 (HKU.out.keeps HK6.out HKW.out) (fun h r hr => HHT.out.2 r (HKW.out h r hr)) (by have := HCP.out.len; simp only at this ⊢; omega)
          rw [crS_left] at HC6
          clear hl6 hk6 hb6 HA1
          go_wp2_with fail
          refine HC6.out.mono ?_
          rintro e w7 ⟨rfl, hl7, hk7⟩
          obtain ⟨T', a', rs', t', hlw', htn', hrr⟩ := HCP.out.left
          have HL7 : Hid (LH w7 lb d (crS gs2 ks) H4 r1 t1) := hl7
          have HU7 : Hid (RH w7 H4 (.slice ua rs.length uc) rs) := HU6.out.keeps hk7
          have HN7 : Hid (RH w7 H4 (.slice va (rs.length + 1) c') (rs ++ [zl])) := HN6.out.keeps hk7
          have HK7 : Hid (Keeps (fun k => k < w.heap.size) w w7) := HK6.out.trans (hk7.mono HHT.out.2)
          have HLW7 : Hid (LW (crS gs2 ks) T' a' (frs rs' ++ t') o 1048576 10000) := hlw'
          have HTN7 : Hid (TornB t') := htn'
          have HRR : Hid (rs' = (rs ++ [zl]) ∨ (10 : Int) = 10 ∧ rs' = rs) := hrr
          have HRS' : Hid (rs'.length ≤ i + 1 ∧ ∀ r ∈ rs', r.length ≤ 300) := by
            rcases hrr with rfl | ⟨_, rfl⟩
            · exact HRN.out
            · exact ⟨by omega, HR3.out⟩
          have HOP7 : Hid (Calls Try.prog _ _ _ _) := hopen w7 hl7 hlw' (fun r hr => by have := HRS'.out.2 r hr; omega) (by have := HRS'.out.1; omega) htn'
          clear hl7 hk7 hlw' htn' hrr HC6 HL6 HU6 HN6 HK6 q3
          generalize crS gs2 ks = S7 at *
          go_wp2_with fail
          refine HOP7.out.mono ?_
          rintro e w8 ⟨lb', rfl, hl8, hlb8, hb8⟩
          have HL8 : Hid (LH w8 lb' d S7 H4 rs' (decide (0 < t'.length))) := hl8
          have HU8 : Hid (RH w8 H4 (.slice ua rs.length uc) rs) := HU7.out.below hb8
          have HN8 : Hid (RH w8 H4 (.slice va (rs.length + 1) c') (rs ++ [zl])) := HN7.out.below hb8
          have HK8 : Hid (Keeps (fun k => k < w.heap.size) w w8) := HK7.out.trans (Keeps.of_below hb8 (fun k hk => Nat.lt_of_lt_of_le hk HK7.out.size))
          have HOT : Hid (Calls Try.prog _ _ _ _) := hothers w8 hl8 HLW7.out
          clear hl8 hlb8 hb8 HOP7 HL7 HU7 HN7 HK7
          generalize decide (0 < t'.length) = tn' at *
          go_wp2_with fail
          refine HOT.out.mono ?_
          rintro e w9 ⟨rfl, hb9⟩
          have HL9 : Hid (LH w9 lb' d S7 H4 rs' tn') := HL8.out.below hb9
          have HU9 : Hid (RH w9 H4 (.slice ua rs.length uc) rs) := HU8.out.below hb9
          have HN9 : Hid (RH w9 H4 (.slice va (rs.length + 1) c') (rs ++ [zl])) := HN8.out.below hb9
          have HK9 : Hid (Keeps (fun k => k < w.heap.size) w w9) := HK8.out.trans (Keeps.of_below hb9 (fun k hk => Nat.lt_of_lt_of_le hk HK8.out.size))
          have HSA0 := hsame w9 HL9.out HN9.out (by have := HRS'.out.1; omega) (by have := HRN.out.1; omega)
          clear hb9 HOT HL8 HU8 HN8 HK8
          by_cases hrq : rs' = (rs ++ [zl])
          · rw [decide_eq_true hrq] at HSA0
            have HSA : Hid (Calls Try.prog _ _ _ _) := HSA0
            clear HSA0
            go_wp2_with fail
            refine HSA.out.mono ?_
            rintro e w10 ⟨rfl, hb10⟩
            have HL10 : Hid (LH w10 lb' d S7 H4 rs' tn') := HL9.out.below hb10
            have HK10 : Hid (Keeps (fun k => k < w.heap.size) w w10) := HK9.out.trans (Keeps.of_below hb10 (fun k hk => Nat.lt_of_lt_of_le hk HK9.out.size))
            clear hb10 HSA HL9
            have HRC : Hid (Calls Try.prog _ _ _ _) := hrecs w10 HL10.out (by have := HRS'.out.1; omega)
            go_wp2_with fail
            refine HRC.out.mono ?_
            rintro e wZ ⟨vz, rfl, hOz, hbz⟩
            have HKZ : Hid (Keeps (fun k => k < w.heap.size) w wZ) := HK10.out.trans (Keeps.of_below hbz (fun k hk => Nat.lt_of_lt_of_le hk HK10.out.size))
            have HLZ : Hid (LH wZ lb' d S7 (fun k => k < w.heap.size ∨ vz.ownBlock = some k) rs' tn') := (HL10.out.more hbz).less (fun k hk => by
              rcases hk with hk | hk
              · exact .inl (HHT.out.2 k hk)
              · exact .inr (hOz.lt k hk))
            have HOZ : Hid (OS wZ 0 vz rs') := hOz.mono (Nat.zero_le _)
            clear hOz hbz HRC HL10 HK10
            go_wp2
            go_roundw
            case rel => exact ⟨i + 1, rs', S7, T', a', lb', t', tn', by omega, by omega, by go_num, rfl, HRS'.out.1, HRS'.out.2, HTN7.out, HLZ.out, HOZ.out, HLW7.out, HKZ.out⟩
            case measure => simp [intOf]; omega
          · have hrq2 : rs' = rs := by
              rcases HRR.out with h | ⟨_, h⟩
              · exact absurd h hrq
              · exact h
            rw [decide_eq_false hrq] at HSA0
            have HUW : Hid (RH w9 H4 (.slice ua rs.length uc) rs) := HU9.out
            have HSA : Hid (Calls Try.prog _ _ _ _) := HSA0
            clear HSA0
            go_wp2_with fail
            refine HSA.out.mono ?_
            rintro e w10 ⟨rfl, hb10⟩
            have HL10 : Hid (LH w10 lb' d S7 H4 rs' tn') := HL9.out.below hb10
            have HK10 : Hid (Keeps (fun k => k < w.heap.size) w w10) := HK9.out.trans (Keeps.of_below hb10 (fun k hk => Nat.lt_of_lt_of_le hk HK9.out.size))
            have HUW10 : Hid (RH w10 H4 (.slice ua rs.length uc) rs) := HUW.out.below hb10
            clear hb10 HSA HL9
            have HU10 : Hid (RH w10 H4 (.slice ua rs.length uc) rs) := HUW10.out
            have HSB0 := hsame w10 HL10.out HU10.out (by have := HRS'.out.1; omega) (by omega)
            rw [decide_eq_true hrq2] at HSB0
            have HSB : Hid (Calls Try.prog _ _ _ _) := HSB0
            clear HSB0 hrq hrq2
            go_wp2_with fail
            refine HSB.out.mono ?_
            rintro e w11 ⟨rfl, hb11⟩
            have HL11 : Hid (LH w11 lb' d S7 H4 rs' tn') := HL10.out.below hb11
            have HK11 : Hid (Keeps (fun k => k < w.heap.size) w w11) := HK10.out.trans (Keeps.of_below hb11 (fun k hk => Nat.lt_of_lt_of_le hk HK10.out.size))
            clear hb11 HSB HL10
            have HRC : Hid (Calls Try.prog _ _ _ _) := hrecs w11 HL11.out (by have := HRS'.out.1; omega)
            go_wp2_with fail
            refine HRC.out.mono ?_
            rintro e wZ ⟨vz, rfl, hOz, hbz⟩
            have HKZ : Hid (Keeps (fun k => k < w.heap.size) w wZ) := HK11.out.trans (Keeps.of_below hbz (fun k hk => Nat.lt_of_lt_of_le hk HK11.out.size))
            have HLZ : Hid (LH wZ lb' d S7 (fun k => k < w.heap.size ∨ vz.ownBlock = some k) rs' tn') := (HL11.out.more hbz).less (fun k hk => by
              rcases hk with hk | hk
              · exact .inl (HHT.out.2 k hk)
              · exact .inr (hOz.lt k hk))
            have HOZ : Hid (OS wZ 0 vz rs') := hOz.mono (Nat.zero_le _)
            clear hOz hbz HRC HL11 HK11
            go_wp2
            go_roundw
            case rel => exact ⟨i + 1, rs', S7, T', a', lb', t', tn', by omega, by omega, by go_num, rfl, HRS'.out.1, HRS'.out.2, HTN7.out, HLZ.out, HOZ.out, HLW7.out, HKZ.out⟩
            case measure => simp [intOf]; omega
    · by_cases hq1 : i < len0
      · have hq2 : ¬ (i : Int) < 20 := by omega
        have hq1i : (i : Int) < (len0 : Int) := by omega
        go_wp2
        go_ret
        exact ⟨rfl, HK.out.below⟩
      · have hq1i : ¬ (i : Int) < (len0 : Int) := by omega
        go_wp2
        go_ret
        exact ⟨rfl, HK.out.below⟩
end Go.Proofs.Ytkaikjlklhcnlaa
