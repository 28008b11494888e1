/- The walk of WalPlays. (Written by wip/wwp.py.) -/
import Derived.Test.YtkaikjlklhcnlaaWalX
import Derived.Test.YtkaikjlklhcnlaaOpsW
import Derived.Test.YtkaikjlklhcnlaaFew
namespace Go.Proofs.Ytkaikjlklhcnlaa
open Go.RowKit Go.Maps
set_option linter.unusedVariables false
set_option linter.unusedSimpArgs false

theorem mem_snoc_le {n : Nat} {l : List (List UInt8)} {x : List UInt8} (h : ∀ r ∈ l, r.length ≤ n) (hx : x.length ≤ n) : ∀ r ∈ l ++ [x], r.length ≤ n := by
  intro r hr
  rcases List.mem_append.1 hr with hr | hr
  · exact h r hr
  · rw [List.mem_singleton] at hr; subst hr; exact hx
theorem opw_len {w : World} {a : Option Addr} {len cap : Nat} {l : List OpW} (h : IsOpW w a len cap l) : len ≤ 9223372036854775807 := by
  rcases h.2 with ⟨_, h, _⟩ | ⟨x, _, h1, h2, _⟩ <;> omega
theorem opw_at {w : World} {a : Option Addr} {len cap : Nat} {l : List OpW} (h : IsOpW w a len cap l) {i : Nat} (hi : i < len) : ∃ b o u, a = some ⟨b, o, none⟩ ∧ len ≤ cap ∧ (l.getD i default).ok ∧ KSl w u (l.getD i default).ks ∧ b < w.heap.size ∧ w.cell? ⟨b, o + i * 4, none⟩ = some (.bool (l.getD i default).rst) ∧ w.cell? ⟨b, o + i * 4 + 1, none⟩ = some (.string (l.getD i default).add) ∧ w.cell? ⟨b, o + i * 4 + 2, none⟩ = some (.int .i64 (l.getD i default).arm) ∧ w.cell? ⟨b, o + i * 4 + 3, none⟩ = some u := by
  rcases h.2 with ⟨_, h, _⟩ | ⟨x, rfl, h1, h2, h3⟩
  · omega
  · obtain ⟨hok, u, hk, hc⟩ := h3 i hi
    obtain ⟨b, o, s⟩ := x
    have hs : s = none := by
      obtain ⟨_, u0, _, hc0⟩ := h3 0 (by omega)
      have c0 : w.cell? ⟨b, o, s⟩ = some _ := hc0 0 _ rfl
      cases s with
      | none => rfl
      | some s => unfold World.cell? at c0; split at c0 <;> simp at c0
    subst hs
    have c0 := hc 0 _ rfl
    have c1 := hc 1 _ rfl
    have c2 := hc 2 _ rfl
    have c3 := hc 3 _ rfl
    rw [Addr.add_mid] at c0 c1 c2 c3
    rw [Nat.add_zero] at c0
    rw [← Nat.add_assoc] at c1 c2 c3
    exact ⟨b, o, u, rfl, h1, hok, hk, World.block_lt_of_cell? _ _ c0, c0, c1, c2, c3⟩
theorem bls_at {w : World} {a : Option Addr} {len cap : Nat} {B : Nat → Bool} (h : IsBls w a len cap B) {i : Nat} (hi : i < len) : ∃ b o, a = some ⟨b, o, none⟩ ∧ len ≤ cap ∧ b < w.heap.size ∧ w.cell? ⟨b, o + i, none⟩ = some (.bool (B i)) := by
  rcases h with ⟨_, h, _⟩ | ⟨x, rfl, h1, h2, h3⟩
  · omega
  · have c0 := h3 i (by omega)
    obtain ⟨b, o, s⟩ := x
    have hs : s = none := by
      have c0 : w.cell? ⟨b, o, s⟩ = some _ := h3 0 (by omega)
      cases s with
      | none => rfl
      | some s => unfold World.cell? at c0; split at c0 <;> simp at c0
    subst hs
    rw [Addr.add_mid] at c0
    exact ⟨b, o, rfl, h1, World.block_lt_of_cell? _ _ c0, c0⟩
theorem bls_len {w : World} {a : Option Addr} {len cap : Nat} {B : Nat → Bool} (h : IsBls w a len cap B) : len ≤ 9223372036854775807 := by
  rcases h with ⟨_, h, _⟩ | ⟨x, rfl, h1, h2, h3⟩ <;> omega
theorem xsame {lb d : Nat} {S : DS} {B0 : Nat} {rs : List (List UInt8)} {tn : Bool} {u : Value} (w : World) (h : LX w lb d S B0 rs tn u rs) (hl : rs.length ≤ 1000) :
    Calls Try.prog 17 #[.pointer (some ⟨lb, 0, none⟩), u] w fun e w' => e = .returned (.bool true) ∧ Below w.heap.size w w' := by
  obtain ⟨⟨K, gs, ⟨_, v, hg⟩, _, _⟩, _, ho, _⟩ := h
  have := same15_any u rs w hg ho.rs (by omega) (by omega)
  rw [decide_eq_true rfl] at this
  exact this
theorem xothers {lb d : Nat} {S : DS} {T : Fo} {a : Nat} {B : List UInt8} {o : Nat} {room : Int} {N B0 : Nat} {rs want : List (List UInt8)} {tn : Bool} {u : Value} (w : World) (h : LX w lb d S B0 rs tn u want) (hlw : LW S T a B o room N) :
    Calls Try.prog 20 #[.pointer (some ⟨d, 0, none⟩)] w fun e w' => e = .returned (.bool true) ∧ Below w.heap.size w w' := by
  obtain ⟨⟨K, gs, hld, _, _⟩, _, _, _⟩ := h
  exact others_any w hld.1 hlw
set_option maxRecDepth 100000 in
set_option maxHeartbeats 8000000 in
theorem lawWalPlays_walk (a0 : Option Addr) (len0 cap0 : Nat) (l : List OpW) (a1 : Option Addr) (len1 cap1 : Nat) (AG : Nat → Bool) (w : World) (h0 : IsOpW w a0 len0 cap0 l) (h1 : IsBls w a1 len1 cap1 AG) :
    Calls Try.prog 4 #[.slice a0 len0 cap0, .slice a1 len1 cap1] w fun e w' => e = .returned (.bool true) ∧ Below w.heap.size w w' := by
  have hlen0 := opw_len h0
  have hlen1 := bls_len h1
  have HOP : Hid (IsOpW w a0 len0 cap0 l) := h0
  have HAG : Hid (IsBls w a1 len1 cap1 AG) := h1
  clear h0 h1
  go_enter Try.func4, Try.ntmps4
  go_wp2_with fail
  refine (start_any 1048576 w (by decide) (by decide)).mono ?_
  rintro e w1 ⟨lb, d, S0, aa, o, rfl, hls, hb1⟩
  have HLS : Hid (LS w1 lb d S0 [] aa [] o 1048576 0 w.heap.size [] false) := hls
  have HK1 : Hid (Keeps (fun k => k < w.heap.size) w w1) := Keeps.of_below hb1 (fun k hk => hk)
  have hba : Below w1.heap.size w1 (w1.alloc (.cells #[] 9)) := (Below.refl _ _).alloc (Nat.le_refl _) _
  have HX1 : Hid (LX (w1.alloc (.cells #[] 9)) lb d S0 w.heap.size [] false (.slice (some ⟨w1.heap.size, 0, none⟩) 0 0) []) := (LX.nil hls).fresh hba (OS.empty w1) HK1.out.size
  have HLW : Hid (LW S0 [] aa [] o 1048576 0) := hls.lw
  have HKA : Hid (Keeps (fun k => k < w.heap.size) w (w1.alloc (.cells #[] 9))) := HK1.out.trans (Keeps.of_below hba (fun k hk => Nat.lt_of_lt_of_le hk HK1.out.size))
  clear hls hb1 hba HLS
  obtain ⟨WA, hWA⟩ : ∃ WA, WA = w1.alloc (.cells #[] 9) := ⟨_, rfl⟩
  rw [← hWA] at HX1 HKA
  have HWA : Hid (w1.alloc (.cells #[] 9) = WA) := hWA.symm
  clear hWA
  go_wp2_with fail
  rw [show w1.alloc (.cells #[] 9) = WA from HWA.out]
  refine (awake15_any WA).mono ?_
  rintro e w2 ⟨rfl, hb2⟩
  have HX2 : Hid (LX w2 lb d S0 w.heap.size [] false (.slice (some ⟨w1.heap.size, 0, none⟩) 0 0) []) := HX1.out.below hb2
  have HK2 : Hid (Keeps (fun k => k < w.heap.size) w w2) := HKA.out.trans (Keeps.of_below hb2 (fun k hk => Nat.lt_of_lt_of_le hk HKA.out.size))
  have HSM : Hid (Calls Try.prog _ _ _ _) := xsame w2 HX2.out (by simp)
  clear hb2 HX1 HKA HWA
  go_wp2_with fail
  refine HSM.out.mono ?_
  rintro e w3 ⟨rfl, hb3⟩
  have HX3 : Hid (LX w3 lb d S0 w.heap.size [] false (.slice (some ⟨w1.heap.size, 0, none⟩) 0 0) []) := HX2.out.below hb3
  have HK3 : Hid (Keeps (fun k => k < w.heap.size) w w3) := HK2.out.trans (Keeps.of_below hb3 (fun k hk => Nat.lt_of_lt_of_le hk HK2.out.size))
  clear hb3 HX2 HK2 HSM
  go_wp2
  go_loopw [6, 7, 8] (fun v6 v7 v8 wr => ∃ (i : Nat) (rs : List (List UInt8)) (S : DS) (a lb : Nat), i ≤ len0 ∧ i ≤ 30 ∧ v8 = .int .i64 (i : Int) ∧ v6 = .pointer (some ⟨lb, 0, none⟩) ∧ rs.length ≤ i ∧ (∀ r ∈ rs, r.length ≤ 300) ∧ LX wr lb d S w.heap.size rs false v7 rs ∧ LW S [] a (frs rs) o 1048576 0 ∧ Keeps (fun k => k < w.heap.size) w wr) (fun _ _ v _ => 30 - (intOf v).toNat)
  case atStart => exact ⟨0, [], S0, aa, lb, Nat.zero_le _, by omega, rfl, rfl, by simp, fun r hr => (by cases hr), HX3.out, HLW.out, HK3.out⟩
  case round =>
    obtain ⟨i, rs, S, a, lb, hi1, hi2, rfl, rfl, hrl, hr3, hx, hlw, hk⟩ := hrel
    obtain ⟨ua, uc, rfl⟩ := hx.own.shape
    have HX : Hid (LX wr lb d S w.heap.size rs false (.slice ua rs.length uc) rs) := hx
    have HLWr : Hid (LW S [] a (frs rs) o 1048576 0) := hlw
    have HK : Hid (Keeps (fun k => k < w.heap.size) w wr) := hk
    have HR3 : Hid (∀ r ∈ rs, r.length ≤ 300) := hr3
    have hfl := frs_bd hr3
    have hfl2 : (frs rs).length ≤ 9240 := Nat.le_trans hfl (Nat.mul_le_mul (by omega : rs.length ≤ 30) (Nat.le_refl _))
    clear hx hlw hk hr3 HX3 HK3 HLW hfl HK1
    by_cases hgo : i < len0 ∧ i < 30
    · obtain ⟨hg1, hg2⟩ := hgo
      have hg1i : (i : Int) < (len0 : Int) := by omega
      have hg2i : (i : Int) < 30 := by omega
      have hi0 : (0 : Int) ≤ (i : Int) := by omega
      obtain ⟨b, oo, ku, rfl, hcl, hok, hku, hbl, d0, d1, d2, d3⟩ := opw_at HOP.out hg1
      have c0 : wr.cell? ⟨b, oo + i * 4, none⟩ = _ := (HK.out.cell hbl _).trans d0
      have c1 : wr.cell? ⟨b, oo + i * 4 + 1, none⟩ = _ := (HK.out.cell hbl _).trans d1
      have hadd := hok.2.1
      clear d0 d1 d2 d3 hku hok
      generalize l.getD i default = r at *
      obtain ⟨rst, add, arm, ks⟩ := r
      simp only at c0 c1 hadd
      cases rst with
      | true =>
        have HRS : Hid (Calls Try.prog _ _ _ _) := xplay_reset wr HX.out HLWr.out (by omega)
        go_wp2_with fail
        refine HRS.out.mono ?_
        rintro e w2 ⟨rfl, ⟨S2, a2, hx2, hlw2⟩, hk2⟩
        have HK2 : Hid (Keeps (fun k => k < w.heap.size) w w2) := HK.out.trans hk2
        have HLW2 : Hid (LW S2 [] a2 (frs []) o 1048576 0) := hlw2
        have hba : Below w2.heap.size w2 (w2.alloc (.cells #[] 9)) := (Below.refl _ _).alloc (Nat.le_refl _) _
        have HX2 : Hid (LX (w2.alloc (.cells #[] 9)) lb d S2 w.heap.size [] false (.slice (some ⟨w2.heap.size, 0, none⟩) 0 0) []) := hx2.fresh hba (OS.empty w2) HK2.out.size
        have HKA : Hid (Keeps (fun k => k < w.heap.size) w (w2.alloc (.cells #[] 9))) := HK2.out.trans (Keeps.of_below hba (fun k hk => Nat.lt_of_lt_of_le hk HK2.out.size))
        have HRL2 : Hid (([] : List (List UInt8)).length ≤ i + 1) := by unfold Hid; simp
        have HR32 : Hid (∀ r ∈ ([] : List (List UInt8)), r.length ≤ 300) := fun r hr => (by cases hr)
        clear hx2 hlw2 hk2 hba HRS
        obtain ⟨WA, hWA⟩ : ∃ WA, WA = w2.alloc (.cells #[] 9) := ⟨_, rfl⟩
        rw [← hWA] at HX2 HKA
        have HWA : Hid (w2.alloc (.cells #[] 9) = WA) := hWA.symm
        clear hWA
        obtain ⟨va, hva⟩ : ∃ va, va = some (⟨w2.heap.size, 0, none⟩ : Addr) := ⟨_, rfl⟩
        have HVA : Hid (some (⟨w2.heap.size, 0, none⟩ : Addr) = va) := hva.symm
        rw [← hva] at HX2
        clear hva
        obtain ⟨rs2, hrs2⟩ : ∃ rs2 : List (List UInt8), rs2 = [] := ⟨_, rfl⟩
        rw [← hrs2] at HX2 HLW2 HRL2 HR32
        have hrs3 : rs2.length = 0 := by rw [hrs2]; rfl
        have HX3 : Hid (LX WA lb d S2 w.heap.size rs2 false (.slice va 0 0) rs2) := HX2.out
        have HSM : Hid (Calls Try.prog _ _ _ _) := xsame WA HX3.out (by omega)
        clear hrs2 HX2
        go_wp2_with fail
        rw [show w2.alloc (.cells #[] 9) = WA from HWA.out, show some (⟨w2.heap.size, 0, none⟩ : Addr) = va from HVA.out]
        refine HSM.out.mono ?_
        rintro e w4 ⟨rfl, hb4⟩
        have HX4 : Hid (LX w4 lb d S2 w.heap.size rs2 false (.slice va 0 0) rs2) := HX3.out.below hb4
        have HK4 : Hid (Keeps (fun k => k < w.heap.size) w w4) := HKA.out.trans (Keeps.of_below hb4 (fun k hk => Nat.lt_of_lt_of_le hk HKA.out.size))
        have HOT : Hid (Calls Try.prog _ _ _ _) := xothers w4 HX4.out HLW2.out
        clear hb4 HX3 HKA HSM
        go_wp2_with fail
        refine HOT.out.mono ?_
        rintro e w5 ⟨rfl, hb5⟩
        have HX5 : Hid (LX w5 lb d S2 w.heap.size rs2 false (.slice va 0 0) rs2) := HX4.out.below hb5
        have HK5 : Hid (Keeps (fun k => k < w.heap.size) w w5) := HK4.out.trans (Keeps.of_below hb5 (fun k hk => Nat.lt_of_lt_of_le hk HK4.out.size))
        clear hb5 HX4 HK4 HOT
        by_cases hag : i < len1
        · have hagi : (i : Int) < (len1 : Int) := by omega
          obtain ⟨b2, o2, rfl, hcl2, hbl2, f0⟩ := bls_at HAG.out hag
          have g0 : w5.cell? ⟨b2, o2 + i, none⟩ = _ := (HK5.out.cell hbl2 _).trans f0
          clear f0
          cases hAG : AG i with
          | true =>
            rw [hAG] at g0
            have HOP5 : Hid (Calls Try.prog _ _ _ _) := xplay_open (t := []) w5 HX5.out HLW2.out (List.append_nil _).symm (fun r hr => by have := HR32.out r hr; omega) (by have := HRL2.out; omega) (.inl rfl) HK5.out.size
            go_wp2_with fail
            refine HOP5.out.mono ?_
            rintro e w6 ⟨lb', rfl, hx6, hk6⟩
            have HX6 : Hid (LX w6 lb' d S2 w.heap.size rs2 false (.slice va 0 0) rs2) := hx6
            have HK6 : Hid (Keeps (fun k => k < w.heap.size) w w6) := HK5.out.trans hk6
            have HSM6 : Hid (Calls Try.prog _ _ _ _) := xsame w6 hx6 (by have := HRL2.out; omega)
            clear hx6 hk6 HOP5
            go_wp2_with fail
            refine HSM6.out.mono ?_
            rintro e w7 ⟨rfl, hb7⟩
            have HX7 : Hid (LX w7 lb' d S2 w.heap.size rs2 false (.slice va 0 0) rs2) := HX6.out.below hb7
            have HK7 : Hid (Keeps (fun k => k < w.heap.size) w w7) := HK6.out.trans (Keeps.of_below hb7 (fun k hk => Nat.lt_of_lt_of_le hk HK6.out.size))
            clear hb7 HX6 HK6 HSM6
            go_wp2
            go_roundw
            case rel => exact ⟨i + 1, rs2, S2, a2, lb', by omega, by omega, by go_num, rfl, HRL2.out, HR32.out, HX7.out, HLW2.out, HK7.out⟩
            case measure => simp [intOf]; omega
          | false =>
            rw [hAG] at g0
            go_wp2
            go_roundw
            case rel => exact ⟨i + 1, rs2, S2, a2, lb, by omega, by omega, by go_num, rfl, HRL2.out, HR32.out, HX5.out, HLW2.out, HK5.out⟩
            case measure => simp [intOf]; omega
        · have hagi : ¬ (i : Int) < (len1 : Int) := by omega
          go_wp2
          go_roundw
          case rel => exact ⟨i + 1, rs2, S2, a2, lb, by omega, by omega, by go_num, rfl, HRL2.out, HR32.out, HX5.out, HLW2.out, HK5.out⟩
          case measure => simp [intOf]; omega
      | false =>
        go_wp2_with fail
        refine (few_any add 300 wr (by decide) hadd).mono ?_
        rintro e w9 ⟨rfl, e9⟩
        have e10 := e9.symm
        subst e10
        clear e9
        rw [show (300 : Int).toNat = 300 from rfl]
        have hZs0 := few_size add 300
        generalize add.extract 0 300 = Z at *
        have hZs : Z.size ≤ 300 := by omega
        clear hZs0
        obtain ⟨zl, hzl⟩ : ∃ zl, zl = Z.data.toList := ⟨_, rfl⟩
        have hZe : Z = mkT zl := by rw [hzl, mkT_self]
        have hzl3 : zl.length ≤ 300 := by rw [hzl, size_toList]; exact hZs
        subst hZe
        clear hzl
        have HA : Hid (Calls Try.prog _ _ _ _) := xplay_add (rs := rs) zl wr HX.out HLWr.out (fun r hr => by have := HR3.out r hr; omega) (by omega) (by omega) (by omega)
        go_wp2_with fail
        refine HA.out.mono ?_
        rintro e w2 ⟨rfl, ⟨S2, hx2, hlw2⟩, hk2⟩
        have HK2 : Hid (Keeps (fun k => k < w.heap.size) w w2) := HK.out.trans hk2
        have HLW2 : Hid (LW S2 [] a (frs (rs ++ [zl])) o 1048576 0) := hlw2
        have HX2 : Hid (LX w2 lb d S2 w.heap.size (rs ++ [zl]) false (.slice ua rs.length uc) rs) := hx2
        have HO2 : Hid (OS w2 w.heap.size (.slice ua rs.length uc) rs) := hx2.own
        have hsz2 : w.heap.size ≤ w2.heap.size := HK2.out.size
        clear hx2 hlw2 hk2 HA
        go_wp2_with (at_builtin; refine append_one rfl _ _ rfl w.heap.size (.slice ua rs.length uc) rs zl rfl rfl HO2.out (by omega) hsz2 ?_; intro va c' WA hO5 hg5 hr5; have HX3 : Hid (LX WA lb d S2 w.heap.size (rs ++ [zl]) false (.slice va (rs.length + 1) c') (rs ++ [zl])) := HX2.out.grown hg5 hO5 hr5; have HKA : Hid (Keeps (fun k => k < w.heap.size) w WA) := HK2.out.grown hg5 (fun k hk => Nat.lt_of_lt_of_le hk HK2.out.size) (fun k hk hn => by have := (HO2.out.lt k hk).1; omega); have HSM : Hid (Calls Try.prog _ _ _ _) := xsame WA HX3.out (by simp; omega); clear hO5 hg5 hr5; go_wp2_with fail)
        have HRL2 : Hid ((rs ++ [zl]).length ≤ i + 1) := by unfold Hid; simp; omega
        have HR32 : Hid (∀ r ∈ rs ++ [zl], r.length ≤ 300) := mem_snoc_le HR3.out hzl3
        have hrs3 : (rs ++ [zl]).length = rs.length + 1 := by simp
        generalize rs ++ [zl] = rs2 at *
        refine HSM.out.mono ?_
        rintro e w4 ⟨rfl, hb4⟩
        have HX4 : Hid (LX w4 lb d S2 w.heap.size rs2 false (.slice va (rs.length + 1) c') rs2) := HX3.out.below hb4
        have HK4 : Hid (Keeps (fun k => k < w.heap.size) w w4) := HKA.out.trans (Keeps.of_below hb4 (fun k hk => Nat.lt_of_lt_of_le hk HKA.out.size))
        have HOT : Hid (Calls Try.prog _ _ _ _) := xothers w4 HX4.out HLW2.out
        clear hb4 HX3 HKA HSM
        go_wp2_with fail
        refine HOT.out.mono ?_
        rintro e w5 ⟨rfl, hb5⟩
        have HX5 : Hid (LX w5 lb d S2 w.heap.size rs2 false (.slice va (rs.length + 1) c') rs2) := HX4.out.below hb5
        have HK5 : Hid (Keeps (fun k => k < w.heap.size) w w5) := HK4.out.trans (Keeps.of_below hb5 (fun k hk => Nat.lt_of_lt_of_le hk HK4.out.size))
        clear hb5 HX4 HK4 HOT
        by_cases hag : i < len1
        · have hagi : (i : Int) < (len1 : Int) := by omega
          obtain ⟨b2, o2, rfl, hcl2, hbl2, f0⟩ := bls_at HAG.out hag
          have g0 : w5.cell? ⟨b2, o2 + i, none⟩ = _ := (HK5.out.cell hbl2 _).trans f0
          clear f0
          cases hAG : AG i with
          | true =>
            rw [hAG] at g0
            have HOP5 : Hid (Calls Try.prog _ _ _ _) := xplay_open (t := []) w5 HX5.out HLW2.out (List.append_nil _).symm (fun r hr => by have := HR32.out r hr; omega) (by have := HRL2.out; omega) (.inl rfl) HK5.out.size
            go_wp2_with fail
            refine HOP5.out.mono ?_
            rintro e w6 ⟨lb', rfl, hx6, hk6⟩
            have HX6 : Hid (LX w6 lb' d S2 w.heap.size rs2 false (.slice va (rs.length + 1) c') rs2) := hx6
            have HK6 : Hid (Keeps (fun k => k < w.heap.size) w w6) := HK5.out.trans hk6
            have HSM6 : Hid (Calls Try.prog _ _ _ _) := xsame w6 hx6 (by have := HRL2.out; omega)
            clear hx6 hk6 HOP5
            go_wp2_with fail
            refine HSM6.out.mono ?_
            rintro e w7 ⟨rfl, hb7⟩
            have HX7 : Hid (LX w7 lb' d S2 w.heap.size rs2 false (.slice va (rs.length + 1) c') rs2) := HX6.out.below hb7
            have HK7 : Hid (Keeps (fun k => k < w.heap.size) w w7) := HK6.out.trans (Keeps.of_below hb7 (fun k hk => Nat.lt_of_lt_of_le hk HK6.out.size))
            clear hb7 HX6 HK6 HSM6
            go_wp2
            go_roundw
            case rel => exact ⟨i + 1, rs2, S2, a, lb', by omega, by omega, by go_num, rfl, HRL2.out, HR32.out, HX7.out, HLW2.out, HK7.out⟩
            case measure => simp [intOf]; omega
          | false =>
            rw [hAG] at g0
            go_wp2
            go_roundw
            case rel => exact ⟨i + 1, rs2, S2, a, lb, by omega, by omega, by go_num, rfl, HRL2.out, HR32.out, HX5.out, HLW2.out, HK5.out⟩
            case measure => simp [intOf]; omega
        · have hagi : ¬ (i : Int) < (len1 : Int) := by omega
          go_wp2
          go_roundw
          case rel => exact ⟨i + 1, rs2, S2, a, lb, by omega, by omega, by go_num, rfl, HRL2.out, HR32.out, HX5.out, HLW2.out, HK5.out⟩
          case measure => simp [intOf]; omega
    · by_cases hq1 : i < len0
      · have hq2 : ¬ (i : Int) < 30 := by omega
        have hq1i : (i : Int) < (len0 : Int) := by omega
        go_wp2
        go_ret
        exact ⟨rfl, HK.out.below⟩
      · have hq1i : ¬ (i : Int) < (len0 : Int) := by omega
        go_wp2
        go_ret
        exact ⟨rfl, HK.out.below⟩
end Go.Proofs.Ytkaikjlklhcnlaa
