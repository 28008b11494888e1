/- The walk of DiskSafe. (Written by wip/wsafe.py.) -/
import Derived.Test.YtgpfbahmkbdjmabDskV
namespace Go.Proofs.Ytgpfbahmkbdjmab
open Go.RowKit Go.Maps
set_option linter.unusedVariables false
set_option linter.unusedSimpArgs false

theorem SI.mineE {S : DS} {i : Nat} (h : SI S i) (hi : i ≤ 40) {d : List UInt8} (hd : d.length ≤ 200) : apE S mineX d = 0 := by
  have hu := h.used hi
  unfold apE; rw [h.die, h.dead, nameD_mine, h.room]; simp; omega
theorem append_b {d : Nat} {S : DS} {K : Nat → Prop} {gs : List Nat} (x : List UInt8) (s : ByteArray) (w : World) (h : DK w d S K gs) (hx : x.length ≤ 9223372036854775807) (hda : s.size ≤ 1099511627776) (hl1 : S.now.length ≤ 1000000) (hl2 : S.steps.length ≤ 1000000) :
    Calls Try.prog 9 #[.pointer (some ⟨d, 0, none⟩), .string (mkT x), .string s] w fun e w' => e = .returned (.int .i64 (apE S x s.data.toList)) ∧ (∃ g gs', DK w' d (apS S x s.data.toList g) K gs' ∧ g ∉ gs ∧ ∀ k ∈ gs, k ∈ gs') ∧ Keeps K w w' := by
  have := append_any x s.data.toList w h hx (by simpa using hda) hl1 hl2
  rw [← mkT_of'] at this
  exact this
theorem DK.memN {w : World} {d : Nat} {S : DS} {K : Nat → Prop} {gs : List Nat} (h : DK w d S K gs) {p : List UInt8 × Nat} (hp : p ∈ S.now) : p.2 ∈ gs := by
  obtain ⟨_, _, _, _, h⟩ := h; exact (h.inN p hp).1
theorem DK.kd {w : World} {d : Nat} {S : DS} {K : Nat → Prop} {gs : List Nat} (h : DK w d S K gs) : Kd S.now := by
  obtain ⟨_, _, _, _, h⟩ := h; exact h.now.kd
theorem ext_sz (s : ByteArray) (n : Nat) (h : n ≤ s.size) : (s.extract 0 n).size = n := by simp [ByteArray.size_extract]; omega
theorem eq_lit (a b : List UInt8) : ((mkT a).toList == b) = (a == b) := by rw [ByteArray.toList_eq, mkT_data]
theorem mkT_app (a : List UInt8) (s : ByteArray) : mkT a ++ s = mkT (a ++ s.data.toList) := by
  apply ByteArray.ext
  rw [ByteArray.data_append]
  simp [mkT]
theorem mkT_ext (a : List UInt8) (m : Nat) : (mkT a).extract 0 m = mkT (a.take m) := ext_mkT a m
theorem zeroOp (w : World) : (zeroValue 30).run Try.prog w = .ok (.agg #[.int .i64 0, .string ⟨#[]⟩, .string ⟨#[]⟩, .int .i64 0, .slice none 0 0]) w := by kernel_rfl
set_option maxRecDepth 100000 in
set_option maxHeartbeats 16000000 in
theorem lawDiskSafe_walk (a0 : Option Addr) (len0 cap0 : Nat) (l : List OpR) (data : ByteArray) (a2 : Option Addr) (len2 cap2 : Nat) (ss : List ByteArray) (a3 : Option Addr) (len3 cap3 : Nat) (zs : List Int) (w : World)
    (h0 : IsOps w a0 len0 cap0 l) (h1 : data.size ≤ 140737488351232) (h2 : IsStrs w a2 len2 cap2 ss) (h3 : IsRow .i64 w a3 len3 cap3 zs) :
    Calls Try.prog 3 #[.slice a0 len0 cap0, .string data, .slice a2 len2 cap2, .slice a3 len3 cap3] w fun e w' => e = .returned (.bool true) ∧ Below w.heap.size w w' := by
  obtain ⟨hks, hkb⟩ := h3.ksl
  have HKS : Hid (KSl w (.slice a3 len3 cap3) (zs.take len3)) := hks
  have HKB : Hid (0 < (zs.take len3).length → ∀ r, (Value.slice a3 len3 cap3).ownBlock = some r → r < w.heap.size) := hkb
  clear h3 hks hkb
  generalize zs.take len3 = ks at *
  have HOP : Hid (IsOps w a0 len0 cap0 l) := h0
  have HST : Hid (IsStrs w a2 len2 cap2 ss) := h2
  have hlen0 : len0 ≤ 9223372036854775807 := by rcases h0.2 with ⟨_, h, _⟩ | ⟨x, _, h1, h2, _⟩ <;> omega
  have hlen2 : len2 ≤ 9223372036854775807 := by rcases h2 with ⟨_, h, _, _⟩ | ⟨x, _, h1, h2, _⟩ <;> (try unfold maxLen at h2) <;> omega
  clear h0 h2
  by_cases hdl : 200 < data.size
  · have hdi : (200 : Int) < (data.size : Int) := by omega
    go_enter Try.func3, Try.ntmps3
    go_wp2_with fail
    refine (new_good 100000 w (by decide) (by decide)).mono ?_
    rintro e w1 ⟨d, rfl, hd1, hb1⟩
    have HK1 : Hid (Keeps (fun k => k < w.heap.size) w w1) := Keeps.of_below hb1 (fun k hk => hk)
    have HD1 : Hid (DK w1 d (newS 100000) (fun k => k < w.heap.size) []) := hd1
    clear hd1 hb1
    go_wp2
    have hD := ext_sz data 200 (by omega)
    generalize data.extract 0 200 = D at *
    have hDs : D.size ≤ 200 := by omega
    clear hD
    clear hdi hdl h1
    go_loopw [11] (fun v wr => ∃ (i : Nat) (S : DS) (gs : List Nat), i ≤ len0 ∧ i ≤ 40 ∧ v = .int .i64 (i : Int) ∧ SI S i ∧ DK wr d S (fun k => k < w.heap.size) gs ∧ Keeps (fun k => k < w.heap.size) w wr) (fun v _ => 40 - (intOf v).toNat)
    case atStart => exact ⟨0, newS 100000, [], Nat.zero_le _, by omega, rfl, SI.new, HD1.out, HK1.out⟩
    case round =>
      obtain ⟨i, S, gs, hi1, hi2, rfl, hS, hd, hk⟩ := hrel
      have HD : Hid (DK wr d S (fun k => k < w.heap.size) gs) := hd
      have HK : Hid (Keeps (fun k => k < w.heap.size) w wr) := hk
      have HS : Hid (SI S i) := hS
      clear hd hk hS
      by_cases hgo : i < len0 ∧ i < 40
      · obtain ⟨hg1, hg2⟩ := hgo
        have hg1i : (i : Int) < (len0 : Int) := by omega
        have hg2i : (i : Int) < 40 := by omega
        have hi0 : (0 : Int) ≤ (i : Int) := by omega
        obtain ⟨hll, hrow⟩ := HOP.out
        obtain ⟨x, rfl, hlc, hcm, hcell⟩ : ∃ x : Addr, a0 = some x ∧ len0 ≤ cap0 ∧ cap0 ≤ 9223372036854775807 ∧ ∀ i, i < len0 → (l.getD i default).ok ∧ ∃ u, KSl w u (l.getD i default).ks ∧ ∀ j v, ((l.getD i default).cells u)[j]? = some v → w.cell? (x.add (i * 5 + j)) = some v := by
          rcases hrow with ⟨_, h, _⟩ | h
          · omega
          · exact h
        obtain ⟨hok, u, hku, hcs⟩ := hcell i hg1
        obtain ⟨b, o, rfl⟩ : ∃ b o, x = ⟨b, o, none⟩ := by
          obtain ⟨_, u0, _, h0⟩ := hcell 0 (by omega)
          have h1 := h0 0 _ rfl
          have h2 : w.cell? x = some _ := h1
          obtain ⟨b, o, s⟩ := x
          cases s with
          | none => exact ⟨b, o, rfl⟩
          | some s => unfold World.cell? at h2; split at h2 <;> simp at h2
        have hcc : ∀ j v, ((l.getD i default).cells u)[j]? = some v → wr.cell? ⟨b, o + i * 5 + j, none⟩ = some v := fun j v hv => by
          have h1 := hcs j v hv
          rw [Addr.add_mid] at h1
          rw [Nat.add_assoc]
          exact (HK.out.cell (World.block_lt_of_cell? _ _ h1) _).trans h1
        clear hcell hrow hcs
        generalize l.getD i default = r at *
        obtain ⟨kind, fr, to, at', ks'⟩ := r
        obtain ⟨ua, uc, rfl, _⟩ := id hku
        have c0 := hcc 0 _ rfl
        have c1 := hcc 1 _ rfl
        have c2 := hcc 2 _ rfl
        have c3 := hcc 3 _ rfl
        have c4 := hcc 4 _ rfl
        rw [Nat.add_zero] at c0
        clear hcc
        have hzo := zeroOp
        obtain ⟨W2, hW2⟩ : ∃ W2, W2 = wr.alloc (.cells #[.int .i64 kind, .string (mkT fr), .string (mkT to), .int .i64 at', .slice ua ks'.length uc] 30) := ⟨_, rfl⟩
        have HB2 : Hid (Below wr.heap.size wr W2) := by rw [hW2]; exact (Below.refl _ _).alloc (Nat.le_refl _) _
        have HD2 : Hid (DK W2 d S (fun k => k < w.heap.size) gs) := HD.out.below HB2.out
        have HK2 : Hid (Keeps (fun k => k < w.heap.size) w W2) := HK.out.trans (Keeps.of_below HB2.out HD.out.Kb)
        have HU2 : Hid (KSl W2 (.slice ua ks'.length uc) ks') := (hku.keeps HK.out (fun h r hr => by obtain ⟨a', c', e, _, _, hh, _⟩ := hku; obtain ⟨b', o', e2, hb', _⟩ := hh 0 h; injection e with e1 _ _; rw [e1, e2] at hr; cases hr; exact hb')).below HB2.out
        have HOK : Hid (OpR.ok ⟨kind, fr, to, at', ks'⟩) := hok
        clear hku hok
        by_cases t1 : kind = 6
        · subst t1
          go_wp2
          go_roundw
          case rel => exact ⟨i + 1, S, gs, by omega, by omega, by go_num, HS.out.up, by rw [← hW2]; exact HD2.out, by rw [← hW2]; exact HK2.out⟩
          case measure => simp [intOf]; omega
        have t1b : (kind == 6) = false := by rw [beq_eq_false_iff_ne]; exact t1
        by_cases t2 : fr = mineX
        · subst t2
          have t2b : ((mkT mineX).toList == [109, 105, 110, 101]) = true := by rw [eq_lit]; decide
          go_wp2
          go_roundw
          case rel => exact ⟨i + 1, S, gs, by omega, by omega, by go_num, HS.out.up, by rw [← hW2]; exact HD2.out, by rw [← hW2]; exact HK2.out⟩
          case measure => simp [intOf]; omega
        have t2b : ((mkT fr).toList == [109, 105, 110, 101]) = false := by rw [eq_lit, beq_eq_false_iff_ne]; exact t2
        by_cases t3 : to = mineX
        · subst t3
          have t3b : ((mkT mineX).toList == [109, 105, 110, 101]) = true := by rw [eq_lit]; decide
          clear t2
          go_wp2
          go_roundw
          case rel => exact ⟨i + 1, S, gs, by omega, by omega, by go_num, HS.out.up, by rw [← hW2]; exact HD2.out, by rw [← hW2]; exact HK2.out⟩
          case measure => simp [intOf]; omega
        have t3b : ((mkT to).toList == [109, 105, 110, 101]) = false := by rw [eq_lit, beq_eq_false_iff_ne]; exact t3
        have HDO : Hid (Calls Try.prog 8 #[.pointer (some ⟨d, 0, none⟩), .agg #[.int .i64 kind, .string (mkT fr), .string (mkT to), .int .i64 at', .slice ua ks'.length uc]] W2 fun e w' => ∃ (z : Int) (S' : DS) (gs' : List Nat), e = .returned (.int .i64 z) ∧ SI S' (i + 1) ∧ DK w' d S' (fun k => k < w.heap.size) gs' ∧ Keeps (fun k => k < w.heap.size) W2 w') := do14_any ⟨kind, fr, to, at', ks'⟩ (.slice ua ks'.length uc) W2 HD2.out HS.out hg2 HOK.out HU2.out t1 t2 t3
        clear t2 t3
        go_wp2_with fail
        rw [← hW2]
        refine HDO.out.mono ?_
        rintro e w5 ⟨z5, S5, gs5, rfl, hS5, hd5, hk5⟩
        have HS5 : Hid (SI S5 (i + 1)) := hS5
        have HD5 : Hid (DK w5 d S5 (fun k => k < w.heap.size) gs5) := hd5
        have HK5 : Hid (Keeps (fun k => k < w.heap.size) w w5) := HK2.out.trans hk5
        clear hS5 hd5 hk5 hW2 HDO
        go_wp2
        go_roundw
        case rel => exact ⟨i + 1, S5, gs5, by omega, by omega, by go_num, HS5.out, HD5.out, HK5.out⟩
        case measure => simp [intOf]; omega
      · have hex : i = len0 ∨ i = 40 := by omega
        have hout : (i < len0 ∧ ¬ i < 40) ∨ ¬ i < len0 := by omega
        have hDl : D.data.toList.length ≤ 200 := by simp; omega
        have hl1 := HS.out.len1
        have hl2 := HS.out.len2
        have HAP : Hid (Calls Try.prog 9 #[.pointer (some ⟨d, 0, none⟩), .string ⟨#[109, 105, 110, 101]⟩, .string D] wr fun e w' => e = .returned (.int .i64 (apE S mineX D.data.toList)) ∧ (∃ g gs', DK w' d (apS S mineX D.data.toList g) (fun k => k < w.heap.size) gs' ∧ g ∉ gs ∧ ∀ k ∈ gs, k ∈ gs') ∧ Keeps (fun k => k < w.heap.size) wr w') := append_b mineX D wr HD.out (by decide) (by omega) (by omega) (by omega)
        have HE : Hid (apE S mineX D.data.toList = 0) := HS.out.mineE hi2 hDl
        have hcnd : ((i : Int) < (len0 : Int) ∧ ¬ (i : Int) < 40) ∨ ¬ (i : Int) < (len0 : Int) := by omega
        clear hex hout hgo hlen0
        rcases hcnd with ⟨hc1, hc2⟩ | hc1
        all_goals
          go_wp2_with fail
          refine HAP.out.mono ?_
          rw [HE.out]
          rintro e w2 ⟨rfl, ⟨g, gs2, hd2, hng, _⟩, hk2⟩
          obtain ⟨_, m1, m2, m3, m4, m5⟩ := HS.out.mine hi2 hDl g (fun p hp e => hng (e ▸ HD.out.memN hp))
          have HMI0 : Hid _ := m5
          have HK2 : Hid (Keeps (fun k => k < w.heap.size) w w2) := HK.out.trans hk2
          have HSY : Hid (Calls Try.prog 10 #[.pointer (some ⟨d, 0, none⟩), .string ⟨#[109, 105, 110, 101]⟩] w2 fun e w' => e = .returned (.int .i64 (syE (apS S mineX D.data.toList g) mineX)) ∧ DK w' d (syS (apS S mineX D.data.toList g) mineX) (fun k => k < w.heap.size) gs2 ∧ Keeps (fun k => k < w.heap.size) w2 w') := sync_any mineX w2 hd2 (by decide)
          have HM3 : Hid _ := m3
          have HM4 : Hid _ := m4
          clear hd2 hk2 hng m1 m2 m3 m4 m5 HAP
          go_wp2_with fail
          refine HSY.out.mono ?_
          rw [HM3.out]
          rintro e w3 ⟨rfl, hd3, hk3⟩
          have HK3 : Hid (Keeps (fun k => k < w.heap.size) w w3) := HK2.out.trans hk3
          have HSE : Hid (Calls Try.prog _ _ _ _) := settle_any w3 hd3
          clear hd3 hk3 HSY
          go_wp2_with fail
          refine HSE.out.mono ?_
          rw [HM4.out]
          rintro e w4 ⟨rfl, hd4, hk4⟩
          have HK4 : Hid (Keeps (fun k => k < w.heap.size) w w4) := HK3.out.trans hk4
          have HD4 : Hid (DK w4 d _ (fun k => k < w.heap.size) gs2) := hd4
          clear hd4 hk4 HSE HM3 HM4 HE
          generalize seS (syS (apS S mineX D.data.toList g) mineX) = S4 at *
          generalize S.now = N at *
          clear HS HD HD1 hl1 hl2
          go_wp2
          obtain ⟨dl0, hdl0⟩ : ∃ dl0, dl0 = D.data.toList := ⟨_, rfl⟩
          rw [← hdl0] at HMI0 hDl
          have hDm : D = mkT dl0 := by rw [hdl0]; exact mkT_of' D
          rw [hDm]
          clear hDm hdl0 hDs
          go_loopw [13, 14] (fun u v wx => ∃ (i : Nat) (all : List UInt8) (S : DS) (gs : List Nat), i ≤ len2 ∧ i ≤ 20 ∧ v = .int .i64 (i : Int) ∧ u = .string (mkT all) ∧ dl0.length ≤ all.length ∧ all.length ≤ 200 + 100 * i ∧ MI S g dl0.length all N ∧ DK wx d S (fun k => k < w.heap.size) gs ∧ Keeps (fun k => k < w.heap.size) w wx) (fun _ v _ => 20 - (intOf v).toNat)
          case atStart => exact ⟨0, dl0, S4, gs2, Nat.zero_le _, by omega, rfl, rfl, Nat.le_refl _, by omega, HMI0.out, HD4.out, HK4.out⟩
          case round =>
            rename World => wx
            obtain ⟨i2, all, S, gs, hj1, hj2, rfl, rfl, hal1, hal2, hM, hd, hk⟩ := hrel
            have HD : Hid (DK wx d S (fun k => k < w.heap.size) gs) := hd
            have HKX : Hid (Keeps (fun k => k < w.heap.size) w wx) := hk
            have HM : Hid (MI S g dl0.length all N) := hM
            obtain ⟨l1, l2, l3⟩ := hM.lens
            clear hd hk hM HMI0 HD4
            have hmsa : ((mkT all).size : Int) = (all.length : Int) := by rw [mkT_size]
            by_cases hgo : i2 < len2 ∧ i2 < 20
            · obtain ⟨hg1, hg2⟩ := hgo
              have hg1i : (i2 : Int) < (len2 : Int) := by omega
              have hg2i : (i2 : Int) < 20 := by omega
              have hi0 : (0 : Int) ≤ (i2 : Int) := by omega
              obtain ⟨x, hax, hlc, hcm, hsl, hcell, hsz⟩ : ∃ x, a2 = some x ∧ len2 ≤ cap2 ∧ cap2 ≤ maxLen ∧ ss.length = cap2 ∧ (∀ i, i < ss.length → w.cell? (x.add i) = some (.string (ss.getD i ByteArray.empty))) ∧ ∀ s ∈ ss, s.size ≤ maxLen := by
                rcases HST.out with ⟨_, h, _, _⟩ | h
                · omega
                · exact h
              obtain ⟨b, o, rfl⟩ : ∃ b o, x = ⟨b, o, none⟩ := by
                have h1 := hcell 0 (by omega)
                have h2 : w.cell? x = some (.string (ss.getD 0 ByteArray.empty)) := by rw [show x.add 0 = x by cases x; simp [Addr.add]] at h1; exact h1
                obtain ⟨b, o, s⟩ := x
                cases s with
                | none => exact ⟨b, o, rfl⟩
                | some s => unfold World.cell? at h2; split at h2 <;> simp at h2
              have hcx : wx.cell? ⟨b, o + i2, none⟩ = some (.string (ss.getD i2 ByteArray.empty)) := by
                have h1 := hcell i2 (by omega)
                rw [Addr.add_mid] at h1
                exact (HKX.out.cell (World.block_lt_of_cell? _ _ h1) _).trans h1
              have hss : (ss.getD i2 ByteArray.empty).size ≤ 9223372036854775807 := by
                have := hsz (ss.getD i2 ByteArray.empty) (by rw [List.getD_eq_getElem?_getD, List.getElem?_eq_getElem (by omega)]; exact List.getElem_mem _)
                unfold maxLen at this; exact this
              clear hcell hsz
              subst hax
              generalize ss.getD i2 ByteArray.empty = s2 at *
              by_cases hs1 : 100 < s2.size
              · have hs1i : (100 : Int) < (s2.size : Int) := by omega
                have hte := ext_sz s2 100 (by omega)
                have HAP : Hid (∀ T : ByteArray, T.size ≤ 100 → Calls Try.prog 9 #[.pointer (some ⟨d, 0, none⟩), .string ⟨#[109, 105, 110, 101]⟩, .string T] wx fun e w' => e = .returned (.int .i64 0) ∧ (∃ S' gs', MI S' g dl0.length (all ++ T.data.toList) N ∧ DK w' d S' (fun k => k < w.heap.size) gs') ∧ Keeps (fun k => k < w.heap.size) wx w') := fun T hT => by
                  have hTl : T.data.toList.length ≤ 100 := by simp; omega
                  have h1 := append_b mineX T wx HD.out (by decide) (by omega) (by omega) (by omega)
                  rw [(HM.out.ap (d := T.data.toList) (by omega) 0).1] at h1
                  refine h1.mono ?_
                  rintro e w' ⟨e1, ⟨g', gs', e2, _, _⟩, e3⟩
                  exact ⟨e1, ⟨_, gs', (HM.out.ap (d := T.data.toList) (by omega) g').2, e2⟩, e3⟩
                go_wp2_with fail
                generalize s2.extract 0 100 = T at *
                refine (HAP.out T (by omega)).mono ?_
                rintro e w5 ⟨rfl, ⟨S5, gs5, hM5, hd5⟩, hk5⟩
                have HM5 : Hid _ := hM5
                have HD5 : Hid (DK w5 d S5 (fun k => k < w.heap.size) gs5) := hd5
                have HK5 : Hid (Keeps (fun k => k < w.heap.size) w w5) := HKX.out.trans hk5
                have HAPP : Hid (mkT all ++ T = mkT (all ++ T.data.toList)) := mkT_app all T
                have hTl : T.data.toList.length ≤ 100 := by simp; omega
                clear hM5 hd5 hk5 HAP
                go_wp2
                go_roundw
                case rel => exact ⟨i2 + 1, all ++ T.data.toList, S5, gs5, by omega, by omega, by go_num, by rw [← HAPP.out], by rw [List.length_append]; omega, by rw [List.length_append]; omega, HM5.out, HD5.out, HK5.out⟩
                case measure => simp [intOf]; omega
              · have hs1i : ¬ (100 : Int) < (s2.size : Int) := by omega
                have hTl : s2.data.toList.length ≤ 100 := by simp; omega
                have HAP : Hid (Calls Try.prog 9 #[.pointer (some ⟨d, 0, none⟩), .string ⟨#[109, 105, 110, 101]⟩, .string s2] wx fun e w' => e = .returned (.int .i64 0) ∧ (∃ S' gs', MI S' g dl0.length (all ++ s2.data.toList) N ∧ DK w' d S' (fun k => k < w.heap.size) gs') ∧ Keeps (fun k => k < w.heap.size) wx w') := by
                  have h1 := append_b mineX s2 wx HD.out (by decide) (by omega) (by omega) (by omega)
                  rw [(HM.out.ap (d := s2.data.toList) (by omega) 0).1] at h1
                  refine h1.mono ?_
                  rintro e w' ⟨e1, ⟨g', gs', e2, _, _⟩, e3⟩
                  exact ⟨e1, ⟨_, gs', (HM.out.ap (d := s2.data.toList) (by omega) g').2, e2⟩, e3⟩
                go_wp2_with fail
                refine HAP.out.mono ?_
                rintro e w5 ⟨rfl, ⟨S5, gs5, hM5, hd5⟩, hk5⟩
                have HM5 : Hid _ := hM5
                have HD5 : Hid (DK w5 d S5 (fun k => k < w.heap.size) gs5) := hd5
                have HK5 : Hid (Keeps (fun k => k < w.heap.size) w w5) := HKX.out.trans hk5
                have HAPP : Hid (mkT all ++ s2 = mkT (all ++ s2.data.toList)) := mkT_app all s2
                clear hM5 hd5 hk5 HAP
                go_wp2
                go_roundw
                case rel => exact ⟨i2 + 1, all ++ s2.data.toList, S5, gs5, by omega, by omega, by go_num, by rw [← HAPP.out], by rw [List.length_append]; omega, by rw [List.length_append]; omega, HM5.out, HD5.out, HK5.out⟩
                case measure => simp [intOf]; omega
            · have hcnd2 : ((i2 : Int) < (len2 : Int) ∧ ¬ (i2 : Int) < 20) ∨ ¬ (i2 : Int) < (len2 : Int) := by omega
              obtain ⟨m, hm1, hm2, hMc⟩ := HM.out.crash HD.out.kd hal1 ks
              have HMC : Hid (MI (crS S ks) g m (all.take m) N) := hMc
              have HCR : Hid (Calls Try.prog _ _ _ _) := crash_any ks (.slice a3 len3 cap3) wx HD.out (HKS.out.keeps HKX.out HKB.out) HKB.out (by omega)
              have hmsd : ((mkT dl0).size : Int) = (dl0.length : Int) := by rw [mkT_size]
              have hmst : ((mkT (all.take m)).size : Int) = (m : Int) := by rw [mkT_size, List.length_take]; omega
              have HEX : Hid ((mkT all).extract 0 m = mkT (all.take m)) := mkT_ext all m
              have hmi1 : ¬ (m : Int) < (dl0.length : Int) := by omega
              have hmi2 : ¬ (all.length : Int) < (m : Int) := by omega
              have hmi3 : (0 : Int) ≤ (m : Int) := by omega
              have hmi4 : (m : Int) ≤ (all.length : Int) := by omega
              clear hMc hgo hlen2
              rcases hcnd2 with ⟨hq1, hq2⟩ | hq1
              all_goals
                go_wp2_with fail
                refine HCR.out.mono ?_
                rintro e w5 ⟨rfl, hd5, hk5⟩
                have HD5 : Hid (DK w5 d (crS S ks) (fun k => k < w.heap.size) gs) := hd5
                have HK5 : Hid (Keeps (fun k => k < w.heap.size) w w5) := HKX.out.trans hk5
                have HRD : Hid (Calls Try.prog 13 #[.pointer (some ⟨d, 0, none⟩), .string ⟨#[109, 105, 110, 101]⟩] w5 fun e w' => e = .returned (.tuple #[.string (mkT (all.take m)), .int .i64 0]) ∧ w' = w5) := by
                  have h1 := read_any mineX w5 hd5 (by decide)
                  rw [HMC.out.rd.1, HMC.out.rd.2] at h1
                  exact h1
                clear hd5 hk5 HCR
                go_wp2_with fail
                refine HRD.out.mono ?_
                rintro e w6 ⟨rfl, e6⟩
                have e7 := e6.symm
                subst e7
                clear e6 HRD
                have hmm2 := HMC.out.crash HD5.out.kd (by rw [List.length_take]; omega) ks
                obtain ⟨m2, hn1, hn2, hM2⟩ := hmm2
                have hm2e : m2 = m := by rw [List.length_take] at hn2; omega
                subst hm2e
                rw [List.take_take, Nat.min_self] at hM2
                have HM2 : Hid (MI (crS (crS S ks) ks) g m2 (all.take m2) N) := hM2
                obtain ⟨n1, n2, n3⟩ := HMC.out.lens
                have HCR2 : Hid (Calls Try.prog _ _ _ _) := crash_any ks (.slice a3 len3 cap3) w5 HD5.out (HKS.out.keeps HK5.out HKB.out) HKB.out (by omega)
                have hqe : ((mkT (all.take m2)).toList == (mkT (all.take m2)).toList) = true := by simp
                have hEX := HEX.out
                clear hM2 hn1 hn2
                go_wp2_with fail
                refine HCR2.out.mono ?_
                rintro e w7 ⟨rfl, hd7, hk7⟩
                have HD7 : Hid (DK w7 d (crS (crS S ks) ks) (fun k => k < w.heap.size) gs) := hd7
                have HK7 : Hid (Keeps (fun k => k < w.heap.size) w w7) := HK5.out.trans hk7
                have HRD2 : Hid (Calls Try.prog 13 #[.pointer (some ⟨d, 0, none⟩), .string ⟨#[109, 105, 110, 101]⟩] w7 fun e w' => e = .returned (.tuple #[.string (mkT (all.take m2)), .int .i64 0]) ∧ w' = w7) := by
                  have h1 := read_any mineX w7 hd7 (by decide)
                  rw [HM2.out.rd.1, HM2.out.rd.2] at h1
                  exact h1
                clear hd7 hk7 HCR2
                go_wp2_with fail
                refine HRD2.out.mono ?_
                rintro e w8 ⟨rfl, e8⟩
                have e9 := e8.symm
                subst e9
                clear e8 HRD2
                go_wp2_with fail
                refine (awake14_any w7).mono ?_
                rintro e w9 ⟨rfl, hb9⟩
                have HB9 : Hid (Below w.heap.size w w9) := (HK7.out.trans (Keeps.of_below hb9 HD7.out.Kb)).below
                clear hb9
                go_wp2
                go_ret
                exact ⟨by simp, HB9.out⟩
  · have hdi : ¬ (200 : Int) < (data.size : Int) := by omega
    go_enter Try.func3, Try.ntmps3
    go_wp2_with fail
    refine (new_good 100000 w (by decide) (by decide)).mono ?_
    rintro e w1 ⟨d, rfl, hd1, hb1⟩
    have HK1 : Hid (Keeps (fun k => k < w.heap.size) w w1) := Keeps.of_below hb1 (fun k hk => hk)
    have HD1 : Hid (DK w1 d (newS 100000) (fun k => k < w.heap.size) []) := hd1
    clear hd1 hb1
    go_wp2
    obtain ⟨D, hDe⟩ : ∃ D, D = data := ⟨_, rfl⟩
    have hDs : D.size ≤ 200 := by rw [hDe]; omega
    rw [← hDe]
    clear hDe
    clear hdi hdl h1
    go_loopw [11] (fun v wr => ∃ (i : Nat) (S : DS) (gs : List Nat), i ≤ len0 ∧ i ≤ 40 ∧ v = .int .i64 (i : Int) ∧ SI S i ∧ DK wr d S (fun k => k < w.heap.size) gs ∧ Keeps (fun k => k < w.heap.size) w wr) (fun v _ => 40 - (intOf v).toNat)
    case atStart => exact ⟨0, newS 100000, [], Nat.zero_le _, by omega, rfl, SI.new, HD1.out, HK1.out⟩
    case round =>
      obtain ⟨i, S, gs, hi1, hi2, rfl, hS, hd, hk⟩ := hrel
      have HD : Hid (DK wr d S (fun k => k < w.heap.size) gs) := hd
      have HK : Hid (Keeps (fun k => k < w.heap.size) w wr) := hk
      have HS : Hid (SI S i) := hS
      clear hd hk hS
      by_cases hgo : i < len0 ∧ i < 40
      · obtain ⟨hg1, hg2⟩ := hgo
        have hg1i : (i : Int) < (len0 : Int) := by omega
        have hg2i : (i : Int) < 40 := by omega
        have hi0 : (0 : Int) ≤ (i : Int) := by omega
        obtain ⟨hll, hrow⟩ := HOP.out
        obtain ⟨x, rfl, hlc, hcm, hcell⟩ : ∃ x : Addr, a0 = some x ∧ len0 ≤ cap0 ∧ cap0 ≤ 9223372036854775807 ∧ ∀ i, i < len0 → (l.getD i default).ok ∧ ∃ u, KSl w u (l.getD i default).ks ∧ ∀ j v, ((l.getD i default).cells u)[j]? = some v → w.cell? (x.add (i * 5 + j)) = some v := by
          rcases hrow with ⟨_, h, _⟩ | h
          · omega
          · exact h
        obtain ⟨hok, u, hku, hcs⟩ := hcell i hg1
        obtain ⟨b, o, rfl⟩ : ∃ b o, x = ⟨b, o, none⟩ := by
          obtain ⟨_, u0, _, h0⟩ := hcell 0 (by omega)
          have h1 := h0 0 _ rfl
          have h2 : w.cell? x = some _ := h1
          obtain ⟨b, o, s⟩ := x
          cases s with
          | none => exact ⟨b, o, rfl⟩
          | some s => unfold World.cell? at h2; split at h2 <;> simp at h2
        have hcc : ∀ j v, ((l.getD i default).cells u)[j]? = some v → wr.cell? ⟨b, o + i * 5 + j, none⟩ = some v := fun j v hv => by
          have h1 := hcs j v hv
          rw [Addr.add_mid] at h1
          rw [Nat.add_assoc]
          exact (HK.out.cell (World.block_lt_of_cell? _ _ h1) _).trans h1
        clear hcell hrow hcs
        generalize l.getD i default = r at *
        obtain ⟨kind, fr, to, at', ks'⟩ := r
        obtain ⟨ua, uc, rfl, _⟩ := id hku
        have c0 := hcc 0 _ rfl
        have c1 := hcc 1 _ rfl
        have c2 := hcc 2 _ rfl
        have c3 := hcc 3 _ rfl
        have c4 := hcc 4 _ rfl
        rw [Nat.add_zero] at c0
        clear hcc
        have hzo := zeroOp
        obtain ⟨W2, hW2⟩ : ∃ W2, W2 = wr.alloc (.cells #[.int .i64 kind, .string (mkT fr), .string (mkT to), .int .i64 at', .slice ua ks'.length uc] 30) := ⟨_, rfl⟩
        have HB2 : Hid (Below wr.heap.size wr W2) := by rw [hW2]; exact (Below.refl _ _).alloc (Nat.le_refl _) _
        have HD2 : Hid (DK W2 d S (fun k => k < w.heap.size) gs) := HD.out.below HB2.out
        have HK2 : Hid (Keeps (fun k => k < w.heap.size) w W2) := HK.out.trans (Keeps.of_below HB2.out HD.out.Kb)
        have HU2 : Hid (KSl W2 (.slice ua ks'.length uc) ks') := (hku.keeps HK.out (fun h r hr => by obtain ⟨a', c', e, _, _, hh, _⟩ := hku; obtain ⟨b', o', e2, hb', _⟩ := hh 0 h; injection e with e1 _ _; rw [e1, e2] at hr; cases hr; exact hb')).below HB2.out
        have HOK : Hid (OpR.ok ⟨kind, fr, to, at', ks'⟩) := hok
        clear hku hok
        by_cases t1 : kind = 6
        · subst t1
          go_wp2
          go_roundw
          case rel => exact ⟨i + 1, S, gs, by omega, by omega, by go_num, HS.out.up, by rw [← hW2]; exact HD2.out, by rw [← hW2]; exact HK2.out⟩
          case measure => simp [intOf]; omega
        have t1b : (kind == 6) = false := by rw [beq_eq_false_iff_ne]; exact t1
        by_cases t2 : fr = mineX
        · subst t2
          have t2b : ((mkT mineX).toList == [109, 105, 110, 101]) = true := by rw [eq_lit]; decide
          go_wp2
          go_roundw
          case rel => exact ⟨i + 1, S, gs, by omega, by omega, by go_num, HS.out.up, by rw [← hW2]; exact HD2.out, by rw [← hW2]; exact HK2.out⟩
          case measure => simp [intOf]; omega
        have t2b : ((mkT fr).toList == [109, 105, 110, 101]) = false := by rw [eq_lit, beq_eq_false_iff_ne]; exact t2
        by_cases t3 : to = mineX
        · subst t3
          have t3b : ((mkT mineX).toList == [109, 105, 110, 101]) = true := by rw [eq_lit]; decide
          clear t2
          go_wp2
          go_roundw
          case rel => exact ⟨i + 1, S, gs, by omega, by omega, by go_num, HS.out.up, by rw [← hW2]; exact HD2.out, by rw [← hW2]; exact HK2.out⟩
          case measure => simp [intOf]; omega
        have t3b : ((mkT to).toList == [109, 105, 110, 101]) = false := by rw [eq_lit, beq_eq_false_iff_ne]; exact t3
        have HDO : Hid (Calls Try.prog 8 #[.pointer (some ⟨d, 0, none⟩), .agg #[.int .i64 kind, .string (mkT fr), .string (mkT to), .int .i64 at', .slice ua ks'.length uc]] W2 fun e w' => ∃ (z : Int) (S' : DS) (gs' : List Nat), e = .returned (.int .i64 z) ∧ SI S' (i + 1) ∧ DK w' d S' (fun k => k < w.heap.size) gs' ∧ Keeps (fun k => k < w.heap.size) W2 w') := do14_any ⟨kind, fr, to, at', ks'⟩ (.slice ua ks'.length uc) W2 HD2.out HS.out hg2 HOK.out HU2.out t1 t2 t3
        clear t2 t3
        go_wp2_with fail
        rw [← hW2]
        refine HDO.out.mono ?_
        rintro e w5 ⟨z5, S5, gs5, rfl, hS5, hd5, hk5⟩
        have HS5 : Hid (SI S5 (i + 1)) := hS5
        have HD5 : Hid (DK w5 d S5 (fun k => k < w.heap.size) gs5) := hd5
        have HK5 : Hid (Keeps (fun k => k < w.heap.size) w w5) := HK2.out.trans hk5
        clear hS5 hd5 hk5 hW2 HDO
        go_wp2
        go_roundw
        case rel => exact ⟨i + 1, S5, gs5, by omega, by omega, by go_num, HS5.out, HD5.out, HK5.out⟩
        case measure => simp [intOf]; omega
      · have hex : i = len0 ∨ i = 40 := by omega
        have hout : (i < len0 ∧ ¬ i < 40) ∨ ¬ i < len0 := by omega
        have hDl : D.data.toList.length ≤ 200 := by simp; omega
        have hl1 := HS.out.len1
        have hl2 := HS.out.len2
        have HAP : Hid (Calls Try.prog 9 #[.pointer (some ⟨d, 0, none⟩), .string ⟨#[109, 105, 110, 101]⟩, .string D] wr fun e w' => e = .returned (.int .i64 (apE S mineX D.data.toList)) ∧ (∃ g gs', DK w' d (apS S mineX D.data.toList g) (fun k => k < w.heap.size) gs' ∧ g ∉ gs ∧ ∀ k ∈ gs, k ∈ gs') ∧ Keeps (fun k => k < w.heap.size) wr w') := append_b mineX D wr HD.out (by decide) (by omega) (by omega) (by omega)
        have HE : Hid (apE S mineX D.data.toList = 0) := HS.out.mineE hi2 hDl
        have hcnd : ((i : Int) < (len0 : Int) ∧ ¬ (i : Int) < 40) ∨ ¬ (i : Int) < (len0 : Int) := by omega
        clear hex hout hgo hlen0
        rcases hcnd with ⟨hc1, hc2⟩ | hc1
        all_goals
          go_wp2_with fail
          refine HAP.out.mono ?_
          rw [HE.out]
          rintro e w2 ⟨rfl, ⟨g, gs2, hd2, hng, _⟩, hk2⟩
          obtain ⟨_, m1, m2, m3, m4, m5⟩ := HS.out.mine hi2 hDl g (fun p hp e => hng (e ▸ HD.out.memN hp))
          have HMI0 : Hid _ := m5
          have HK2 : Hid (Keeps (fun k => k < w.heap.size) w w2) := HK.out.trans hk2
          have HSY : Hid (Calls Try.prog 10 #[.pointer (some ⟨d, 0, none⟩), .string ⟨#[109, 105, 110, 101]⟩] w2 fun e w' => e = .returned (.int .i64 (syE (apS S mineX D.data.toList g) mineX)) ∧ DK w' d (syS (apS S mineX D.data.toList g) mineX) (fun k => k < w.heap.size) gs2 ∧ Keeps (fun k => k < w.heap.size) w2 w') := sync_any mineX w2 hd2 (by decide)
          have HM3 : Hid _ := m3
          have HM4 : Hid _ := m4
          clear hd2 hk2 hng m1 m2 m3 m4 m5 HAP
          go_wp2_with fail
          refine HSY.out.mono ?_
          rw [HM3.out]
          rintro e w3 ⟨rfl, hd3, hk3⟩
          have HK3 : Hid (Keeps (fun k => k < w.heap.size) w w3) := HK2.out.trans hk3
          have HSE : Hid (Calls Try.prog _ _ _ _) := settle_any w3 hd3
          clear hd3 hk3 HSY
          go_wp2_with fail
          refine HSE.out.mono ?_
          rw [HM4.out]
          rintro e w4 ⟨rfl, hd4, hk4⟩
          have HK4 : Hid (Keeps (fun k => k < w.heap.size) w w4) := HK3.out.trans hk4
          have HD4 : Hid (DK w4 d _ (fun k => k < w.heap.size) gs2) := hd4
          clear hd4 hk4 HSE HM3 HM4 HE
          generalize seS (syS (apS S mineX D.data.toList g) mineX) = S4 at *
          generalize S.now = N at *
          clear HS HD HD1 hl1 hl2
          go_wp2
          obtain ⟨dl0, hdl0⟩ : ∃ dl0, dl0 = D.data.toList := ⟨_, rfl⟩
          rw [← hdl0] at HMI0 hDl
          have hDm : D = mkT dl0 := by rw [hdl0]; exact mkT_of' D
          rw [hDm]
          clear hDm hdl0 hDs
          go_loopw [13, 14] (fun u v wx => ∃ (i : Nat) (all : List UInt8) (S : DS) (gs : List Nat), i ≤ len2 ∧ i ≤ 20 ∧ v = .int .i64 (i : Int) ∧ u = .string (mkT all) ∧ dl0.length ≤ all.length ∧ all.length ≤ 200 + 100 * i ∧ MI S g dl0.length all N ∧ DK wx d S (fun k => k < w.heap.size) gs ∧ Keeps (fun k => k < w.heap.size) w wx) (fun _ v _ => 20 - (intOf v).toNat)
          case atStart => exact ⟨0, dl0, S4, gs2, Nat.zero_le _, by omega, rfl, rfl, Nat.le_refl _, by omega, HMI0.out, HD4.out, HK4.out⟩
          case round =>
            rename World => wx
            obtain ⟨i2, all, S, gs, hj1, hj2, rfl, rfl, hal1, hal2, hM, hd, hk⟩ := hrel
            have HD : Hid (DK wx d S (fun k => k < w.heap.size) gs) := hd
            have HKX : Hid (Keeps (fun k => k < w.heap.size) w wx) := hk
            have HM : Hid (MI S g dl0.length all N) := hM
            obtain ⟨l1, l2, l3⟩ := hM.lens
            clear hd hk hM HMI0 HD4
            have hmsa : ((mkT all).size : Int) = (all.length : Int) := by rw [mkT_size]
            by_cases hgo : i2 < len2 ∧ i2 < 20
            · obtain ⟨hg1, hg2⟩ := hgo
              have hg1i : (i2 : Int) < (len2 : Int) := by omega
              have hg2i : (i2 : Int) < 20 := by omega
              have hi0 : (0 : Int) ≤ (i2 : Int) := by omega
              obtain ⟨x, hax, hlc, hcm, hsl, hcell, hsz⟩ : ∃ x, a2 = some x ∧ len2 ≤ cap2 ∧ cap2 ≤ maxLen ∧ ss.length = cap2 ∧ (∀ i, i < ss.length → w.cell? (x.add i) = some (.string (ss.getD i ByteArray.empty))) ∧ ∀ s ∈ ss, s.size ≤ maxLen := by
                rcases HST.out with ⟨_, h, _, _⟩ | h
                · omega
                · exact h
              obtain ⟨b, o, rfl⟩ : ∃ b o, x = ⟨b, o, none⟩ := by
                have h1 := hcell 0 (by omega)
                have h2 : w.cell? x = some (.string (ss.getD 0 ByteArray.empty)) := by rw [show x.add 0 = x by cases x; simp [Addr.add]] at h1; exact h1
                obtain ⟨b, o, s⟩ := x
                cases s with
                | none => exact ⟨b, o, rfl⟩
                | some s => unfold World.cell? at h2; split at h2 <;> simp at h2
              have hcx : wx.cell? ⟨b, o + i2, none⟩ = some (.string (ss.getD i2 ByteArray.empty)) := by
                have h1 := hcell i2 (by omega)
                rw [Addr.add_mid] at h1
                exact (HKX.out.cell (World.block_lt_of_cell? _ _ h1) _).trans h1
              have hss : (ss.getD i2 ByteArray.empty).size ≤ 9223372036854775807 := by
                have := hsz (ss.getD i2 ByteArray.empty) (by rw [List.getD_eq_getElem?_getD, List.getElem?_eq_getElem (by omega)]; exact List.getElem_mem _)
                unfold maxLen at this; exact this
              clear hcell hsz
              subst hax
              generalize ss.getD i2 ByteArray.empty = s2 at *
              by_cases hs1 : 100 < s2.size
              · have hs1i : (100 : Int) < (s2.size : Int) := by omega
                have hte := ext_sz s2 100 (by omega)
                have HAP : Hid (∀ T : ByteArray, T.size ≤ 100 → Calls Try.prog 9 #[.pointer (some ⟨d, 0, none⟩), .string ⟨#[109, 105, 110, 101]⟩, .string T] wx fun e w' => e = .returned (.int .i64 0) ∧ (∃ S' gs', MI S' g dl0.length (all ++ T.data.toList) N ∧ DK w' d S' (fun k => k < w.heap.size) gs') ∧ Keeps (fun k => k < w.heap.size) wx w') := fun T hT => by
                  have hTl : T.data.toList.length ≤ 100 := by simp; omega
                  have h1 := append_b mineX T wx HD.out (by decide) (by omega) (by omega) (by omega)
                  rw [(HM.out.ap (d := T.data.toList) (by omega) 0).1] at h1
                  refine h1.mono ?_
                  rintro e w' ⟨e1, ⟨g', gs', e2, _, _⟩, e3⟩
                  exact ⟨e1, ⟨_, gs', (HM.out.ap (d := T.data.toList) (by omega) g').2, e2⟩, e3⟩
                go_wp2_with fail
                generalize s2.extract 0 100 = T at *
                refine (HAP.out T (by omega)).mono ?_
                rintro e w5 ⟨rfl, ⟨S5, gs5, hM5, hd5⟩, hk5⟩
                have HM5 : Hid _ := hM5
                have HD5 : Hid (DK w5 d S5 (fun k => k < w.heap.size) gs5) := hd5
                have HK5 : Hid (Keeps (fun k => k < w.heap.size) w w5) := HKX.out.trans hk5
                have HAPP : Hid (mkT all ++ T = mkT (all ++ T.data.toList)) := mkT_app all T
                have hTl : T.data.toList.length ≤ 100 := by simp; omega
                clear hM5 hd5 hk5 HAP
                go_wp2
                go_roundw
                case rel => exact ⟨i2 + 1, all ++ T.data.toList, S5, gs5, by omega, by omega, by go_num, by rw [← HAPP.out], by rw [List.length_append]; omega, by rw [List.length_append]; omega, HM5.out, HD5.out, HK5.out⟩
                case measure => simp [intOf]; omega
              · have hs1i : ¬ (100 : Int) < (s2.size : Int) := by omega
                have hTl : s2.data.toList.length ≤ 100 := by simp; omega
                have HAP : Hid (Calls Try.prog 9 #[.pointer (some ⟨d, 0, none⟩), .string ⟨#[109, 105, 110, 101]⟩, .string s2] wx fun e w' => e = .returned (.int .i64 0) ∧ (∃ S' gs', MI S' g dl0.length (all ++ s2.data.toList) N ∧ DK w' d S' (fun k => k < w.heap.size) gs') ∧ Keeps (fun k => k < w.heap.size) wx w') := by
                  have h1 := append_b mineX s2 wx HD.out (by decide) (by omega) (by omega) (by omega)
                  rw [(HM.out.ap (d := s2.data.toList) (by omega) 0).1] at h1
                  refine h1.mono ?_
                  rintro e w' ⟨e1, ⟨g', gs', e2, _, _⟩, e3⟩
                  exact ⟨e1, ⟨_, gs', (HM.out.ap (d := s2.data.toList) (by omega) g').2, e2⟩, e3⟩
                go_wp2_with fail
                refine HAP.out.mono ?_
                rintro e w5 ⟨rfl, ⟨S5, gs5, hM5, hd5⟩, hk5⟩
                have HM5 : Hid _ := hM5
                have HD5 : Hid (DK w5 d S5 (fun k => k < w.heap.size) gs5) := hd5
                have HK5 : Hid (Keeps (fun k => k < w.heap.size) w w5) := HKX.out.trans hk5
                have HAPP : Hid (mkT all ++ s2 = mkT (all ++ s2.data.toList)) := mkT_app all s2
                clear hM5 hd5 hk5 HAP
                go_wp2
                go_roundw
                case rel => exact ⟨i2 + 1, all ++ s2.data.toList, S5, gs5, by omega, by omega, by go_num, by rw [← HAPP.out], by rw [List.length_append]; omega, by rw [List.length_append]; omega, HM5.out, HD5.out, HK5.out⟩
                case measure => simp [intOf]; omega
            · have hcnd2 : ((i2 : Int) < (len2 : Int) ∧ ¬ (i2 : Int) < 20) ∨ ¬ (i2 : Int) < (len2 : Int) := by omega
              obtain ⟨m, hm1, hm2, hMc⟩ := HM.out.crash HD.out.kd hal1 ks
              have HMC : Hid (MI (crS S ks) g m (all.take m) N) := hMc
              have HCR : Hid (Calls Try.prog _ _ _ _) := crash_any ks (.slice a3 len3 cap3) wx HD.out (HKS.out.keeps HKX.out HKB.out) HKB.out (by omega)
              have hmsd : ((mkT dl0).size : Int) = (dl0.length : Int) := by rw [mkT_size]
              have hmst : ((mkT (all.take m)).size : Int) = (m : Int) := by rw [mkT_size, List.length_take]; omega
              have HEX : Hid ((mkT all).extract 0 m = mkT (all.take m)) := mkT_ext all m
              have hmi1 : ¬ (m : Int) < (dl0.length : Int) := by omega
              have hmi2 : ¬ (all.length : Int) < (m : Int) := by omega
              have hmi3 : (0 : Int) ≤ (m : Int) := by omega
              have hmi4 : (m : Int) ≤ (all.length : Int) := by omega
              clear hMc hgo hlen2
              rcases hcnd2 with ⟨hq1, hq2⟩ | hq1
              all_goals
                go_wp2_with fail
                refine HCR.out.mono ?_
                rintro e w5 ⟨rfl, hd5, hk5⟩
                have HD5 : Hid (DK w5 d (crS S ks) (fun k => k < w.heap.size) gs) := hd5
                have HK5 : Hid (Keeps (fun k => k < w.heap.size) w w5) := HKX.out.trans hk5
                have HRD : Hid (Calls Try.prog 13 #[.pointer (some ⟨d, 0, none⟩), .string ⟨#[109, 105, 110, 101]⟩] w5 fun e w' => e = .returned (.tuple #[.string (mkT (all.take m)), .int .i64 0]) ∧ w' = w5) := by
                  have h1 := read_any mineX w5 hd5 (by decide)
                  rw [HMC.out.rd.1, HMC.out.rd.2] at h1
                  exact h1
                clear hd5 hk5 HCR
                go_wp2_with fail
                refine HRD.out.mono ?_
                rintro e w6 ⟨rfl, e6⟩
                have e7 := e6.symm
                subst e7
                clear e6 HRD
                have hmm2 := HMC.out.crash HD5.out.kd (by rw [List.length_take]; omega) ks
                obtain ⟨m2, hn1, hn2, hM2⟩ := hmm2
                have hm2e : m2 = m := by rw [List.length_take] at hn2; omega
                subst hm2e
                rw [List.take_take, Nat.min_self] at hM2
                have HM2 : Hid (MI (crS (crS S ks) ks) g m2 (all.take m2) N) := hM2
                obtain ⟨n1, n2, n3⟩ := HMC.out.lens
                have HCR2 : Hid (Calls Try.prog _ _ _ _) := crash_any ks (.slice a3 len3 cap3) w5 HD5.out (HKS.out.keeps HK5.out HKB.out) HKB.out (by omega)
                have hqe : ((mkT (all.take m2)).toList == (mkT (all.take m2)).toList) = true := by simp
                have hEX := HEX.out
                clear hM2 hn1 hn2
                go_wp2_with fail
                refine HCR2.out.mono ?_
                rintro e w7 ⟨rfl, hd7, hk7⟩
                have HD7 : Hid (DK w7 d (crS (crS S ks) ks) (fun k => k < w.heap.size) gs) := hd7
                have HK7 : Hid (Keeps (fun k => k < w.heap.size) w w7) := HK5.out.trans hk7
                have HRD2 : Hid (Calls Try.prog 13 #[.pointer (some ⟨d, 0, none⟩), .string ⟨#[109, 105, 110, 101]⟩] w7 fun e w' => e = .returned (.tuple #[.string (mkT (all.take m2)), .int .i64 0]) ∧ w' = w7) := by
                  have h1 := read_any mineX w7 hd7 (by decide)
                  rw [HM2.out.rd.1, HM2.out.rd.2] at h1
                  exact h1
                clear hd7 hk7 HCR2
                go_wp2_with fail
                refine HRD2.out.mono ?_
                rintro e w8 ⟨rfl, e8⟩
                have e9 := e8.symm
                subst e9
                clear e8 HRD2
                go_wp2_with fail
                refine (awake14_any w7).mono ?_
                rintro e w9 ⟨rfl, hb9⟩
                have HB9 : Hid (Below w.heap.size w w9) := (HK7.out.trans (Keeps.of_below hb9 HD7.out.Kb)).below
                clear hb9
                go_wp2
                go_ret
                exact ⟨by simp, HB9.out⟩
end Go.Proofs.Ytgpfbahmkbdjmab
