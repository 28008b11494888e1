/- The walk of CellarerFiles. -/
import Derived.Test.YtmjfcneofpddiaaDoorQCfA
import Derived.Test.YtmjfcneofpddiaaDoorQWkW
import Derived.Test.YtmjfcneofpddiaaDoorQOpsI
import Derived.Test.YtmjfcneofpddiaaDoorQDskO
import Derived.Test.YtmjfcneofpddiaaDoorQDskP
import Derived.Deep.RegionHeld3
namespace Go.Proofs.YtmjfcneofpddiaaDoor
open Go.RowKit Go.Maps
set_option linter.unusedVariables false
set_option linter.unusedSimpArgs false

theorem mkT_ofF (s : ByteArray) : s = mkT s.data.toList := by cases s; rfl
theorem foldmax : ∀ (m : Nat) (l : List Nat), (∀ k ∈ l, k ≤ l.foldl Nat.max m) ∧ m ≤ l.foldl Nat.max m := by
  intro m l
  induction l generalizing m with
  | nil => exact ⟨fun k hk => (by cases hk), Nat.le_refl _⟩
  | cons b r ih =>
    rw [List.foldl_cons]
    obtain ⟨i1, i2⟩ := ih (Nat.max m b)
    have h5 : m ≤ Nat.max m b := Nat.le_max_left _ _
    have h6 : b ≤ Nat.max m b := Nat.le_max_right _ _
    refine ⟨fun k hk => ?_, Nat.le_trans h5 i2⟩
    rcases List.mem_cons.1 hk with rfl | hk
    · exact Nat.le_trans h6 i2
    · exact i1 k hk
theorem newg (F : Fo) : ∃ g, ∀ p ∈ F, p.2 ≠ g := ⟨((F.map (·.2)).foldl Nat.max 0) + 1, fun p hp e => by
  have := (foldmax 0 (F.map (·.2))).1 _ (List.mem_map.2 ⟨p, hp, rfl⟩)
  rw [e] at this; omega⟩
theorem append_b {d : Nat} {S : DS} {K : Nat → Prop} {gs : List Nat} (x : List UInt8) (s : ByteArray) (w : World) (h : DK w d S K gs) (hx : x.length ≤ 9223372036854775807) (hda : s.size ≤ 1099511627776) (hl1 : S.now.length ≤ 1000000) (hl2 : S.steps.length ≤ 1000000) :
    Calls Tryd.prog 16 #[.pointer (some ⟨d, 0, none⟩), .string (mkT x), .string s] w fun e w' => e = .returned (.int .i64 (apE S x s.data.toList)) ∧ (∃ g gs', DK w' d (apS S x s.data.toList g) K gs' ∧ g ∉ gs ∧ ∀ k ∈ gs, k ∈ gs') ∧ Keeps K w w' := by
  have := append_any x s.data.toList w h hx (by simpa using hda) hl1 hl2
  rw [← mkT_ofF] at this
  exact this
theorem DK.memN {w : World} {d : Nat} {S : DS} {K : Nat → Prop} {gs : List Nat} (h : DK w d S K gs) {p : List UInt8 × Nat} (hp : p ∈ S.now) : p.2 ∈ gs := by
  obtain ⟨_, _, _, _, h⟩ := h; exact (h.inN p hp).1
theorem ext_sz (s : ByteArray) (n : Nat) (h : n ≤ s.size) : (s.extract 0 n).size = n := by simp [ByteArray.size_extract]; omega
theorem IV.keepsK {K : Nat → Prop} {w w' : World} {v : Value} {l : List It} (h : IV w v l) (hk : Keeps K w w') (hK : ∀ g o n c, g < w.heap.size → v = .slice (some ⟨g, o, none⟩) n c → K g) : IV w' v l := by
  obtain ⟨a, cap, rfl, hc, hn, hf⟩ := h
  refine ⟨a, cap, rfl, hc, hn, fun hne => ?_⟩
  obtain ⟨g, o, rfl, hg, hcl⟩ := hf hne
  refine ⟨g, o, rfl, Nat.lt_of_lt_of_le hg hk.size, fun j u hu => ?_⟩
  exact (hk.cell (hK g o _ _ hg rfl) (o + j)).trans (hcl j u hu)
set_option maxRecDepth 100000 in
theorem fname_any (i : Nat) (w : World) (hi : i < 20) : Calls Tryd.prog 17 #[.int .i64 (i : Int)] w fun e w' => e = .returned (.string (mkB (fnm i))) ∧ Below w.heap.size w w' := by
  have hrt : ((UInt8.ofNat (97 + i)).toNat : Int) = 97 + (i : Int) := by rw [UInt8.toNat_ofNat']; omega
  have hct := conv_two 102 (UInt8.ofNat (97 + i)) w
  rw [hrt] at hct
  have h102 : ((102 : UInt8).toNat : Int) = 102 := rfl
  rw [h102] at hct
  have HF : Hid (mkB [102, UInt8.ofNat (97 + i)] = mkB (fnm i)) := rfl
  have HB : Hid (Below w.heap.size w (w.alloc (.cells #[.int .u8 102, .int .u8 (97 + (i : Int))] 5))) := (Below.refl _ _).alloc (Nat.le_refl _) _
  generalize mkB [102, UInt8.ofNat (97 + i)] = PT at *
  go_enter Tryd.func17, Tryd.ntmps17
  go_wp2
  go_ret
  exact ⟨by rw [HF.out]; rfl, HB.out⟩
/-- The cell of an item's bytes; what others hold is kept. -/
def SX (K : Nat → Prop) (w0 : World) (b : Nat) (u : Value) (W : World) : Prop := W.cell? ⟨b, 4, none⟩ = some u ∧ Keeps K w0 W ∧ K b ∧ (∀ k, K k → k < w0.heap.size)
theorem SX.bel {K : Nat → Prop} {w0 W W' : World} {b : Nat} {u : Value} (h : SX K w0 b u W) (hb : Below W.heap.size W W') : SX K w0 b u W' :=
  ⟨((Keeps.of_below hb (fun k hk => hk)).cell (World.block_lt_of_cell? _ _ h.1) 4).trans h.1, h.2.1.trans (Keeps.of_below hb (fun k hk => Nat.lt_of_lt_of_le (h.2.2.2 k hk) h.2.1.size)), h.2.2.1, h.2.2.2⟩
theorem SX.kp {K : Nat → Prop} {w0 W W' : World} {b : Nat} {u : Value} (h : SX K w0 b u W) (hk : Keeps K W W') : SX K w0 b u W' :=
  ⟨(hk.cell h.2.2.1 4).trans h.1, h.2.1.trans hk, h.2.2.1, h.2.2.2⟩
theorem SX.both {K : Nat → Prop} {w0 W : World} {b : Nat} {u : Value} (h : SX K w0 b u W) : W.cell? ⟨b, 4, none⟩ = some u ∧ SX K w0 b u W := ⟨h.1, h⟩
set_option maxRecDepth 100000 in
set_option maxHeartbeats 16000000 in
theorem lawCellarerFiles_walk (a0 : Option Addr) (len0 cap0 : Nat) (z0 : List It) (a1 : Option Addr) (len1 cap1 : Nat) (ss : List ByteArray) (a2 : Option Addr) (len2 cap2 : Nat) (zs : List Int) (w : World)
    (h0 : IsIts w a0 len0 cap0 z0) (h1 : IsStrs w a1 len1 cap1 ss) (h2 : IsRow .i64 w a2 len2 cap2 zs) (hL : Lay11 w) :
    Calls Tryd.prog 5 #[.slice a0 len0 cap0, .slice a1 len1 cap1, .slice a2 len2 cap2] w fun e w' => e = .returned (.bool true) ∧ Below w.heap.size w w' := by
  obtain ⟨hks, hkb⟩ := h2.ksl
  have HKS : Hid (KSl w (.slice a2 len2 cap2) (zs.take len2)) := hks
  have HKB : Hid (0 < (zs.take len2).length → ∀ r, (Value.slice a2 len2 cap2).ownBlock = some r → r < w.heap.size) := hkb
  clear h2 hks hkb
  generalize zs.take len2 = ks at *
  have HST : Hid (IsStrs w a1 len1 cap1 ss) := h1
  have hlen1 : len1 ≤ 9223372036854775807 := by rcases h1 with ⟨_, h, _, _⟩ | ⟨x, _, h1, h2, _⟩ <;> (try unfold maxLen at h2) <;> omega
  obtain ⟨hlen, hl63, hok, hiv⟩ := h0
  have HL : Hid (Lay11 w) := hL
  have HIV : Hid (IV w (.slice a0 len0 cap0) z0) := hiv
  have HOK : Hid (∀ x ∈ z0, x.ok) := hok
  have HLN : Hid (z0.length = len0 ∧ len0 ≤ 9223372036854775807) := ⟨hlen, hl63⟩
  clear h1 hL hiv hok hlen hl63
  go_enter Tryd.func5, Tryd.ntmps5
  go_wp2_with fail
  refine (new_good 1048576 w (by decide) (by decide)).mono ?_
  rintro e w1 ⟨d, rfl, hd1, hb1⟩
  have HB1 : Hid (Below w.heap.size w w1) := hb1
  have HD1 : Hid (DK w1 d (newS 1048576) (fun k => k < w.heap.size) []) := hd1
  have HFE : Hid (Calls Tryd.prog _ _ _ _) := few13_any a0 len0 cap0 z0 20 w1 (HIV.out.below hb1) HLN.out.1 (by decide) HLN.out.2
  clear hd1 hb1
  go_wp2_with fail
  refine HFE.out.mono ?_
  rintro e w2 ⟨a', c', rfl, hO, hb2⟩
  have HB2 : Hid (Below w.heap.size w w2) := HB1.out.trans (hb2.mono HB1.out.size)
  have HB12 : Hid (Below w1.heap.size w1 w2) := hb2
  have HLQ : Hid ((z0.take 20).length ≤ 20) := by unfold Hid; rw [List.length_take]; omega
  have HWK : Hid (Calls Tryd.prog 11 #[.slice a' (z0.take 20).length c'] w2 _) := walk_any _ (z0.take 20) w2 hO.iv (fun x hx => (HOK.out x (List.mem_of_mem_take hx)).2.2.2) (HL.out.below HB2.out) (by have := HLQ.out; omega)
  clear hO hb2 HFE
  generalize z0.take 20 = q at *
  go_wp2_with fail
  refine HWK.out.mono ?_
  rintro e w3 ⟨hw, hb3⟩
  have HB3 : Hid (Below w.heap.size w w3) := HB2.out.trans (hb3.mono HB2.out.size)
  have HB13 : Hid (Below w1.heap.size w1 w3) := HB12.out.trans (hb3.mono HB12.out.size)
  have HZ3 : Hid (w2.heap.size ≤ w3.heap.size) := hb3.size
  clear hb3 HWK
  rcases hw with ⟨z, hz, -, rfl⟩ | ⟨hc0, v', l, rfl, hp, hs, hv, hn⟩
  · have hzb : (z == 0) = false := beq_eq_false_iff_ne.2 hz
    clear hz
    go_wp2
    go_ret
    exact ⟨rfl, HB3.out⟩
  have ht := hc0.tree
  have HT : Hid (Tree q) := ht
  have hn20 : l.length ≤ 20 := by rw [hp.length_eq]; exact HLQ.out
  have HFIT : Hid (∀ x ∈ l, x.d.length ≤ 32768) := fun x hx => (fit_len (ht.fit x (hp.mem_iff.1 hx))).2.1
  have HSZ : Hid (sizeI l ≤ 655360) := by
    have := sizeI_le l (fun x hx _ => HFIT.out x hx)
    unfold Hid; omega
  obtain ⟨a3, c3, rfl, -, -, -⟩ := id hv
  have HV3 : Hid (IV w3 (.slice a3 l.length c3) l) := hv
  obtain ⟨KL, hKL⟩ : ∃ KL : Nat → Prop, KL = fun k => k < w.heap.size ∨ (w1.heap.size ≤ k ∧ k < w3.heap.size) := ⟨_, rfl⟩
  have HD3 : Hid (DK w3 d (newS 1048576) KL []) := by
    rw [hKL]
    exact HD1.out.kept (fun k hk _ => HB13.out.block k hk) (fun k hk => by
      rcases hk with hk | hk
      · exact ⟨Nat.lt_of_lt_of_le hk HB3.out.size, .inl hk⟩
      · exact ⟨hk.2, .inr hk.1⟩)
  have HKV : Hid (∀ g o n c, g < w3.heap.size → Value.slice a3 l.length c3 = .slice (some ⟨g, o, none⟩) n c → KL g) := fun g o n c hg e => by
    rw [hKL]
    exact .inr ⟨Nat.le_trans HB12.out.size (hn g o n c e), hg⟩
  have HKW : Hid (∀ k, k < w.heap.size → KL k) := fun k hk => by rw [hKL]; exact .inl hk
  have HB3K : Hid (Keeps (fun k => k < w.heap.size) w w3) := Keeps.of_below HB3.out (fun k hk => hk)
  clear hKL ht hc0 hp hs hv hn HT HB12 HB13 HB1 HB2 HD1 HLQ HOK HIV HLN
  have HN : Hid (l.length = l.length) := rfl
  obtain ⟨n, hn⟩ : ∃ n, n = l.length := ⟨_, rfl⟩
  have HNL : Hid (n = l.length) := hn
  rw [← hn] at hn20 HV3 HKV
  rw [← hn]
  clear hn HN
  go_wp2
  go_loopw [11, 45] (fun u v wr => ∃ (i : Nat) (S : DS) (gs : List Nat), i ≤ n ∧ v = .int .i64 (i : Int) ∧ u = .int .i64 (cntF (l.take i) : Int) ∧ FI l i S ∧ DK wr d S KL gs ∧ Keeps KL w3 wr) (fun _ v _ => n - (intOf v).toNat)
  case atStart => exact ⟨0, newS 1048576, [], Nat.zero_le _, rfl, rfl, FI.new l, HD3.out, Keeps.refl _ _⟩
  case round =>
    obtain ⟨i, S, gs, hi, rfl, rfl, hS, hd, hk⟩ := hrel
    have HD : Hid (DK wr d S KL gs) := hd
    have HK : Hid (Keeps KL w3 wr) := hk
    have HS : Hid (FI l i S) := hS
    have hcle : cntF (l.take i) ≤ i := by have := cntF_le (l.take i); rw [List.length_take] at this; omega
    clear hd hk hS
    by_cases hlt : i < n
    · have hlti : (i : Int) < (n : Int) := by omega
      obtain ⟨x, hx⟩ : ∃ x, l[i]? = some x := ⟨_, List.getElem?_eq_getElem (by rw [← HNL.out]; exact hlt)⟩
      obtain ⟨g, o, rfl, hg, -, hcap, c0, c1, c2, c3', c4⟩ := (HV3.out.keepsK HK.out HKV.out).at hx
      have hzo := zeroIt
      have HX : Hid (l[i]? = some x) := hx
      have HCN : Hid (cntF (l.take (i + 1)) = cntF (l.take i) + (if x.k = 2 then 1 else 0)) := by unfold Hid; rw [take_snocI hx]; exact cntF_snoc _ _
      have HSZ2 : Hid (sizeI (l.take i) + x.d.length ≤ 1048576 ∧ x.d.length ≤ 32768) := by
        have h1 := HFIT.out x (List.mem_of_getElem? hx)
        have h2 := sizeI_take l i
        have h3 := HSZ.out
        exact ⟨by omega, h1⟩
      obtain ⟨W2, hW2⟩ : ∃ W2, W2 = wr.alloc (.cells #[.string (mkB x.p), .int .i64 x.k, .int .i64 x.m, .int .i64 x.t, .string (mkB x.d)] 25) := ⟨_, rfl⟩
      have HD2 : Hid (DK W2 d S (fun k => KL k ∨ k = wr.heap.size) gs) := by rw [hW2]; exact HD.out.new1 _
      have HK2 : Hid (Keeps KL w3 W2) := by rw [hW2]; exact HK.out.trans (Keeps.of_below ((Below.refl _ _).alloc (Nat.le_refl _) _) HD.out.Kb)
      have hb4 : W2.cell? ⟨wr.heap.size, 4, none⟩ = some (.string (mkB x.d)) := by rw [hW2]; exact (cell_of_row _ _ _ _ _ _ (heap_alloc_new _ _)).trans rfl
      have HW2 : Hid (wr.alloc (.cells #[.string (mkB x.p), .int .i64 x.k, .int .i64 x.m, .int .i64 x.t, .string (mkB x.d)] 25) = W2) := hW2.symm
      clear hW2 hx
      by_cases hk2 : x.k = 2
      · have HFL : Hid (∀ g, (∀ p ∈ S.now, p.2 ≠ g) → apE S (fnm i) x.d = 0 ∧ syE (apS S (fnm i) x.d g) (fnm i) = 0 ∧ (apS S (fnm i) x.d g).steps.length ≤ i + 1 ∧ (apS S (fnm i) x.d g).now.length ≤ i + 1 ∧ FI l (i + 1) (syS (apS S (fnm i) x.d g) (fnm i))) := fun g hg => HS.out.file (by omega) HX.out hk2 HSZ2.out.1 g hg
        have HCN1 : Hid (cntF (l.take (i + 1)) = cntF (l.take i) + 1) := by have := HCN.out; rw [if_pos hk2] at this; exact this
        have hkn : (x.k == 2) = true := by rw [hk2]; rfl
        have hSl : S.now.length ≤ 1000000 ∧ S.steps.length ≤ 1000000 := by
          have h1 := HS.out.len
          have h2 := HS.out.st
          omega
        have HAP : Hid (∀ W, Below W2.drew.heap.size W2.drew W → Calls Tryd.prog 16 #[.pointer (some ⟨d, 0, none⟩), .string (mkB (fnm i)), .string (mkB x.d)] W fun e w' => e = .returned (.int .i64 0) ∧ (∃ g gs', DK w' d (apS S (fnm i) x.d g) (fun k => KL k ∨ k = wr.heap.size) gs' ∧ g ∉ gs ∧ ∀ k ∈ gs, k ∈ gs') ∧ Keeps (fun k => KL k ∨ k = wr.heap.size) W w') := fun W hW => by
          have h1 := append_any (fnm i) x.d W ((HD2.out.below (Below.refl _ _).drew).below hW) (by simp [fnm]) (by have := HSZ2.out.2; omega) hSl.1 hSl.2
          have h2 : apE S (fnm i) x.d = 0 := by
            obtain ⟨g0, hg⟩ := newg S.now
            exact (HFL.out _ hg).1
          rw [h2] at h1
          exact h1
        have HSY : Hid (∀ (g : Nat) (gs' : List Nat) (W W' : World), DK W d (apS S (fnm i) x.d g) (fun k => KL k ∨ k = wr.heap.size) gs' → g ∉ gs → Below W.heap.size W W' → Calls Tryd.prog 18 #[.pointer (some ⟨d, 0, none⟩), .string (mkB (fnm i))] W' fun e w' => e = .returned (.int .i64 0) ∧ DK w' d (syS (apS S (fnm i) x.d g) (fnm i)) (fun k => KL k ∨ k = wr.heap.size) gs' ∧ Keeps (fun k => KL k ∨ k = wr.heap.size) W' w') := fun g gs' W W' h1 h2 h3 => by
          have h4 := sync_any (fnm i) W' (h1.below h3) (by simp [fnm])
          rw [(HFL.out g (fun p hp e => h2 (e ▸ HD.out.memN hp))).2.1] at h4
          exact h4
        have HFN : Hid (∀ W, Calls Tryd.prog 17 #[.int .i64 (i : Int)] W fun e w' => e = .returned (.string (mkB (fnm i))) ∧ Below W.heap.size W w') := fun W => fname_any i W (by omega)
        have hS0 : W2.drew.cell? ⟨wr.heap.size, 4, none⟩ = some (.string (mkB x.d)) ∧ SX (fun k => KL k ∨ k = wr.heap.size) W2 wr.heap.size (.string (mkB x.d)) W2.drew := ⟨hb4, hb4, (Keeps.refl _ _).drew, .inr rfl, fun k hk => HD2.out.Kb k hk⟩
        rw [hk2] at c1 HW2
        clear hb4 hk2 hSl
        go_upto_region 12 with fail
        rw [HW2.out]
        clear c0 c1 c2 c3' c4
        go_region_held3 (fun W => W.cell? ⟨wr.heap.size, 4, none⟩ = some (.string (mkB x.d)) ∧ SX (fun k => KL k ∨ k = wr.heap.size) W2 wr.heap.size (.string (mkB x.d)) W) (first | exact hS0 | exact SX.both (SX.kp (And.right (by assumption)) hk8) | exact SX.both (SX.kp (And.right (by assumption)) hk6) | exact SX.both (SX.bel (And.right (by assumption)) hb5)) ((first | (go_at_call 17; refine (HFN.out _).mono ?_; rintro e w5 ⟨rfl, hb5⟩) | (go_at_call 16; refine (HAP.out _ hb5).mono ?_; rintro e w6 ⟨rfl, ⟨g6, gs6, hd6, hg6, hm6⟩, hk6⟩) | (go_at_call 18; refine (HSY.out _ _ _ _ hd6 hg6 hb5).mono ?_; rintro e w8 ⟨rfl, hd8, hk8⟩)))
        have HSX : Hid (SX (fun k => KL k ∨ k = wr.heap.size) W2 wr.heap.size (.string (mkB x.d)) w8) := And.right (by assumption)
        have HD8 : Hid (DK w8 d _ KL gs6) := hd8.less (fun k hk => .inl hk)
        have HK8 : Hid (Keeps KL w3 w8) := HK2.out.trans (HSX.out.2.1.mono (fun k hk => .inl hk))
        have HG6 : Hid (∀ p ∈ S.now, p.2 ≠ g6) := fun p hp e => hg6 (e ▸ HD.out.memN hp)
        clear hd8 hk8 hd6 hg6 hk6 HAP HSY HFN
        go_wp2
        go_roundw
        case rel => exact ⟨i + 1, _, gs6, by omega, by go_num, by rw [HCN1.out]; go_num, (HFL.out g6 HG6.out).2.2.2.2, HD8.out, HK8.out⟩
        case measure => simp [intOf]; omega
      · have hkn : (x.k == 2) = false := beq_eq_false_iff_ne.2 hk2
        have HSK : Hid (FI l (i + 1) S) := HS.out.skip HX.out hk2
        have HCN1 : Hid (cntF (l.take (i + 1)) = cntF (l.take i)) := by have := HCN.out; rw [if_neg hk2] at this; exact this
        have HD3 : Hid (DK W2 d S KL gs) := HD2.out.less (fun k hk => .inl hk)
        clear hk2
        go_wp2
        go_roundw
        case rel => exact ⟨i + 1, S, gs, by omega, by go_num, by rw [HCN1.out], HSK.out, by rw [HW2.out]; exact HD3.out, by rw [HW2.out]; exact HK2.out⟩
        case measure => simp [intOf]; omega
    · have hin : i = n := by omega
      subst hin
      obtain ⟨hse, hBI, -⟩ := FI.settle HNL.out HS.out
      have HSE : Hid (Calls Tryd.prog _ _ _ _) := settle_any wr HD.out
      have HBI : Hid (BI l S.now 0 (seS S)) := hBI
      have HSE0 : Hid (seE S = 0) := hse
      have hnl : S.now.length = cntF l := hBI.len
      have HCT : Hid (cntF (l.take i) = cntF l) := by unfold Hid; rw [HNL.out, List.take_length]
      have HGT : Hid (cntF l ≤ i) := by unfold Hid; rw [← HCT.out]; exact hcle
      rw [HCT.out]
      clear hse hBI hcle hlt hi
      go_wp2_with fail
      refine HSE.out.mono ?_
      rw [HSE0.out]
      rintro e w4 ⟨rfl, hd4, hk4⟩
      have HD4 : Hid (DK w4 d (seS S) KL gs) := hd4
      have HK4 : Hid (Keeps KL w3 w4) := HK.out.trans hk4
      clear hd4 hk4 HSE HSE0 HS HD HK
      generalize seS S = S4 at *
      generalize S.now = F0 at *
      go_wp2
      go_loopw [14] (fun v wx => ∃ (j : Nat) (S : DS) (gs : List Nat), j ≤ len1 ∧ j ≤ 6 ∧ v = .int .i64 (j : Int) ∧ BI l F0 j S ∧ DK wx d S KL gs ∧ Keeps KL w3 wx) (fun v _ => 6 - (intOf v).toNat)
      case atStart => exact ⟨0, S4, gs, Nat.zero_le _, by omega, rfl, HBI.out, HD4.out, HK4.out⟩
      case round =>
        rename World => wx
        obtain ⟨j, S, gs, hj1, hj2, rfl, hB, hd, hk⟩ := hrel
        have HD : Hid (DK wx d S KL gs) := hd
        have HKX : Hid (Keeps KL w3 wx) := hk
        have HKWX : Hid (Keeps (fun k => k < w.heap.size) w wx) := HB3K.out.trans (hk.mono HKW.out)
        have HB : Hid (BI l F0 j S) := hB
        clear hd hk hB HBI HD4 HK4
        by_cases hgo : j < len1 ∧ j < 6
        · obtain ⟨hg1, hg2⟩ := hgo
          have hg1i : (j : Int) < (len1 : Int) := by omega
          have hg2i : (j : Int) < 6 := by omega
          have hi0 : (0 : Int) ≤ (j : Int) := by omega
          obtain ⟨x, hax, hlc, hcm, hsl, hcell, hsz⟩ : ∃ x, a1 = some x ∧ len1 ≤ cap1 ∧ cap1 ≤ maxLen ∧ ss.length = cap1 ∧ (∀ i, i < ss.length → w.cell? (x.add i) = some (.string (ss.getD i ByteArray.empty))) ∧ ∀ s ∈ ss, s.size ≤ maxLen := by
            rcases HST.out with ⟨_, h, _, _⟩ | h
            · omega
            · exact h
          obtain ⟨b, o, rfl⟩ : ∃ b o, x = ⟨b, o, none⟩ := by
            have h1 := hcell 0 (by omega)
            have h2 : w.cell? x = some (.string (ss.getD 0 ByteArray.empty)) := by rw [show x.add 0 = x by cases x; simp [Addr.add]] at h1; exact h1
            obtain ⟨b, o, s⟩ := x
            cases s with
            | none => exact ⟨b, o, rfl⟩
            | some s => unfold World.cell? at h2; split at h2 <;> simp at h2
          have hcx : wx.cell? ⟨b, o + j, none⟩ = some (.string (ss.getD j ByteArray.empty)) := by
            have h1 := hcell j (by omega)
            rw [Addr.add_mid] at h1
            exact (HKWX.out.cell (World.block_lt_of_cell? _ _ h1) _).trans h1
          have hss : (ss.getD j ByteArray.empty).size ≤ 9223372036854775807 := by
            have := hsz (ss.getD j ByteArray.empty) (by rw [List.getD_eq_getElem?_getD, List.getElem?_eq_getElem (by omega)]; exact List.getElem_mem _)
            unfold maxLen at this; exact this
          clear hcell hsz
          subst hax
          generalize ss.getD j ByteArray.empty = s2 at *
          have hlen0 := HB.out.len
          have hcl := HGT.out
          have HAP : Hid (∀ T : ByteArray, T.size ≤ 100 → Calls Tryd.prog 16 #[.pointer (some ⟨d, 0, none⟩), .string ⟨#[103]⟩, .string T] wx fun e w' => e = .returned (.int .i64 0) ∧ (∃ S1 gs', DK w' d S1 KL gs' ∧ rnE S1 gX hX = 0 ∧ S1.now.length ≤ 1000000 ∧ S1.steps.length ≤ 1000000 ∧ BI l F0 (j + 1) (rnS S1 gX hX)) ∧ Keeps KL wx w') := fun T hT => by
            have hTl : T.data.toList.length ≤ 100 := by simp; omega
            have hst := HB.out.st
            have hnw : S.now.length ≤ 1000000 := by
              rcases HB.out.now with e | ⟨b, e, _⟩ <;> rw [e]
              · omega
              · simp; omega
            have h1 := append_b gX T wx HD.out (by decide) (by omega) hnw (by omega)
            obtain ⟨g0, hg⟩ := newg S.now
            have hs1 := HSZ.out
            rw [(HB.out.round hTl (by omega) _ hg).1] at h1
            refine h1.mono ?_
            rintro e w' ⟨e1, ⟨g', gs', e2, e4, _⟩, e3⟩
            obtain ⟨_, r2, r3, r4, r5⟩ := HB.out.round hTl (by omega) g' (fun p hp e => e4 (e ▸ HD.out.memN hp))
            exact ⟨e1, ⟨_, gs', e2, r2, by omega, by omega, r5⟩, e3⟩
          have HRN : Hid (∀ (W : World) (S1 : DS) (gs' : List Nat), DK W d S1 KL gs' → rnE S1 gX hX = 0 → S1.now.length ≤ 1000000 → S1.steps.length ≤ 1000000 → Calls Tryd.prog 20 #[.pointer (some ⟨d, 0, none⟩), .string ⟨#[103]⟩, .string ⟨#[104]⟩] W fun e w' => e = .returned (.int .i64 0) ∧ DK w' d (rnS S1 gX hX) KL gs' ∧ Keeps KL W w') := fun W S1 gs' h1 h2 h3 h4 => by
            have h5 := rename_any gX hX W h1 (by decide) (by decide) h3 h4
            rw [h2] at h5
            exact h5
          clear hlen0 hcl
          by_cases hs1 : 100 < s2.size
          · have hs1i : (100 : Int) < (s2.size : Int) := by omega
            have hte := ext_sz s2 100 (by omega)
            go_wp2_with fail
            generalize s2.extract 0 100 = T at *
            refine (HAP.out T (by omega)).mono ?_
            rintro e w5 ⟨rfl, ⟨S5, gs5, hd5, hr5, hn5, ht5, hB5⟩, hk5⟩
            have HB5 : Hid (BI l F0 (j + 1) (rnS S5 gX hX)) := hB5
            have HK5 : Hid (Keeps KL w3 w5) := HKX.out.trans hk5
            have HR5 : Hid (Calls Tryd.prog _ _ _ _) := HRN.out w5 S5 gs5 hd5 hr5 hn5 ht5
            clear hB5 hd5 hk5 HAP HRN hr5 hn5 ht5
            go_wp2_with fail
            refine HR5.out.mono ?_
            rintro e w6 ⟨rfl, hd6, hk6⟩
            have HD6 : Hid (DK w6 d (rnS S5 gX hX) KL gs5) := hd6
            have HK6 : Hid (Keeps KL w3 w6) := HK5.out.trans hk6
            clear hd6 hk6 HR5
            go_wp2
            go_roundw
            case rel => exact ⟨j + 1, _, gs5, by omega, by omega, by go_num, HB5.out, HD6.out, HK6.out⟩
            case measure => simp [intOf]; omega
          · have hs1i : ¬ (100 : Int) < (s2.size : Int) := by omega
            go_wp2_with fail
            refine (HAP.out s2 (by omega)).mono ?_
            rintro e w5 ⟨rfl, ⟨S5, gs5, hd5, hr5, hn5, ht5, hB5⟩, hk5⟩
            have HB5 : Hid (BI l F0 (j + 1) (rnS S5 gX hX)) := hB5
            have HK5 : Hid (Keeps KL w3 w5) := HKX.out.trans hk5
            have HR5 : Hid (Calls Tryd.prog _ _ _ _) := HRN.out w5 S5 gs5 hd5 hr5 hn5 ht5
            clear hB5 hd5 hk5 HAP HRN hr5 hn5 ht5
            go_wp2_with fail
            refine HR5.out.mono ?_
            rintro e w6 ⟨rfl, hd6, hk6⟩
            have HD6 : Hid (DK w6 d (rnS S5 gX hX) KL gs5) := hd6
            have HK6 : Hid (Keeps KL w3 w6) := HK5.out.trans hk6
            clear hd6 hk6 HR5
            go_wp2
            go_roundw
            case rel => exact ⟨j + 1, _, gs5, by omega, by omega, by go_num, HB5.out, HD6.out, HK6.out⟩
            case measure => simp [intOf]; omega
        · have hcnd2 : ((j : Int) < (len1 : Int) ∧ ¬ (j : Int) < 6) ∨ ¬ (j : Int) < (len1 : Int) := by omega
          have HCI : Hid (CI l (crS S ks)) := HB.out.crash (by rw [← HNL.out]; exact hn20) ks
          have hst := HB.out.st
          have hlen0 := HB.out.len
          have hsur := HB.out.sure
          have hcl := HGT.out
          have HCR : Hid (Calls Tryd.prog _ _ _ _) := crash_any ks (.slice a2 len2 cap2) wx HD.out (HKS.out.keeps HKWX.out HKB.out) (fun h0 r hr => HKW.out _ (HKB.out h0 r hr)) (by rw [hsur]; omega)
          clear hst hlen0 hsur hcl hgo hlen1 hj1 hj2
          rcases hcnd2 with ⟨hq1, hq2⟩ | hq1
          all_goals
            go_wp2_with fail
            refine HCR.out.mono ?_
            rintro e w5 ⟨rfl, hd5, hk5⟩
            have HD5 : Hid (DK w5 d (crS S ks) KL gs) := hd5
            have HK5 : Hid (Keeps KL w3 w5) := HKX.out.trans hk5
            clear hd5 hk5 HCR HB HD
            generalize crS S ks = S5 at *
            go_wp2
            go_loopw [106] (fun v wy => ∃ (j : Nat), j ≤ i ∧ v = .int .i64 (j : Int) ∧ DK wy d S5 KL gs ∧ Keeps KL w3 wy) (fun v _ => i - (intOf v).toNat)
            case atStart => exact ⟨0, Nat.zero_le _, rfl, HD5.out, HK5.out⟩
            case round =>
              rename World => wy
              obtain ⟨k, hk1, rfl, hd, hk⟩ := hrel
              have HD : Hid (DK wy d S5 KL gs) := hd
              have HKY : Hid (Keeps KL w3 wy) := hk
              clear hd hk HD5 HK5
              by_cases hlt : k < i
              · have hlti : (k : Int) < (i : Int) := by omega
                obtain ⟨x, hx⟩ : ∃ x, l[k]? = some x := ⟨_, List.getElem?_eq_getElem (by rw [← HNL.out]; exact hlt)⟩
                obtain ⟨g, o, rfl, hg, -, hcap, c0, c1, c2, c3', c4⟩ := (HV3.out.keepsK HKY.out HKV.out).at hx
                have hzo := zeroIt
                have HX : Hid (l[k]? = some x) := hx
                obtain ⟨W2, hW2⟩ : ∃ W2, W2 = wy.alloc (.cells #[.string (mkB x.p), .int .i64 x.k, .int .i64 x.m, .int .i64 x.t, .string (mkB x.d)] 25) := ⟨_, rfl⟩
                have HD2 : Hid (DK W2 d S5 (fun k => KL k ∨ k = wy.heap.size) gs) := by rw [hW2]; exact HD.out.new1 _
                have HK2 : Hid (Keeps KL w3 W2) := by rw [hW2]; exact HKY.out.trans (Keeps.of_below ((Below.refl _ _).alloc (Nat.le_refl _) _) HD.out.Kb)
                have hbx : W2.heap[wy.heap.size]? = some (.cells #[.string (mkB x.p), .int .i64 x.k, .int .i64 x.m, .int .i64 x.t, .string (mkB x.d)] 25 (0, 0)) := by rw [hW2]; exact heap_alloc_new _ _
                have HBX : Hid (W2.heap[wy.heap.size]? = _) := hbx
                have HW2 : Hid (wy.alloc (.cells #[.string (mkB x.p), .int .i64 x.k, .int .i64 x.m, .int .i64 x.t, .string (mkB x.d)] 25) = W2) := hW2.symm
                have hzl : wy.heap.size < W2.heap.size := by rw [hW2]; simp
                have HFN : Hid (Calls Tryd.prog 17 #[.int .i64 (k : Int)] W2 fun e w' => e = .returned (.string (mkB (fnm k))) ∧ Below W2.heap.size W2 w') := fname_any k W2 (by omega)
                clear hW2 hx hbx
                go_wp2_with fail
                rw [HW2.out]
                clear c0 c1 c2 c3' c4
                refine HFN.out.mono ?_
                rintro e w7 ⟨rfl, hb7⟩
                have HD7 : Hid (DK w7 d S5 KL gs) := (HD2.out.below hb7).less (fun k hk => .inl hk)
                have HK7 : Hid (Keeps KL w3 w7) := HK2.out.trans (Keeps.of_below hb7 (fun k hk => HD2.out.Kb k (.inl hk)))
                obtain ⟨b0, b1, b2, b3, b4⟩ := cells5 ((hb7.block _ hzl).trans HBX.out)
                have HRD : Hid (Calls Tryd.prog 22 #[.pointer (some ⟨d, 0, none⟩), .string (mkB (fnm k))] w7 fun e w' => e = .returned (.tuple #[.string (mkB (rdV S5 (fnm k))), .int .i64 (rdE S5 (fnm k))]) ∧ w' = w7) := read_any (fnm k) w7 HD7.out (by simp [fnm])
                clear hb7 HFN hzl
                by_cases hk2 : x.k = 2
                · obtain ⟨r1, r2⟩ := HCI.out.yes k x (by omega) HX.out hk2
                  rw [r1, r2] at HRD
                  rw [hk2] at b1
                  have kst : ((mkB x.d).toList == (mkB x.d).toList) = true := by simp
                  have jst : ((mkB x.d).toList != (mkB x.d).toList) = false := by rw [bne, kst]; rfl
                  clear hk2 r1 r2
                  go_wp2_with fail
                  refine HRD.out.mono ?_
                  rintro e w8 ⟨rfl, e8⟩
                  have e9 := e8.symm
                  subst e9
                  clear e8 HRD
                  go_wp2
                  go_roundw
                  case rel => exact ⟨k + 1, by omega, by go_num, HD7.out, HK7.out⟩
                  case measure => simp [intOf]; omega
                · have r1 := HCI.out.no k x (by omega) HX.out hk2
                  rw [r1] at HRD
                  have hkn : (x.k == 2) = false := beq_eq_false_iff_ne.2 hk2
                  have hkm : (x.k != 2) = true := by rw [bne, hkn]; rfl
                  clear hk2 r1
                  go_wp2_with fail
                  refine HRD.out.mono ?_
                  rintro e w8 ⟨rfl, e8⟩
                  have e9 := e8.symm
                  subst e9
                  clear e8 HRD
                  go_wp2
                  go_roundw
                  case rel => exact ⟨k + 1, by omega, by go_num, HD7.out, HK7.out⟩
                  case measure => simp [intOf]; omega
              · have hki : k = i := by omega
                subst hki
                have HLI : Hid (Calls Tryd.prog _ _ _ _) := list_any wy HD.out HCI.out.dead (by have := HCI.out.hi; have := HGT.out; omega)
                have hcc : cntF l ≤ 20 := Nat.le_trans HGT.out hn20
                have hlo : cntF l ≤ S5.now.length := HCI.out.lo
                have hhi : S5.now.length ≤ cntF l + 2 := HCI.out.hi
                have hus : sizeI l ≤ usd S5.fl S5.now := HCI.out.us
                clear hlt hk1
                go_wp2_with fail
                refine HLI.out.mono ?_
                rintro e w7 ⟨v7, rfl, hO, hb7⟩
                obtain ⟨la, lc, rfl⟩ := hO.shape
                have hnl := nms_len S5.now
                have HD7 : Hid (DK w7 d S5 KL gs) := HD.out.below hb7
                have HK7 : Hid (Keeps KL w3 w7) := HKY.out.trans (Keeps.of_below hb7 HD.out.Kb)
                have HUS : Hid (Calls Tryd.prog _ _ _ _) := used_any w7 HD7.out (by have := HGT.out; omega)
                have HSI : Hid (∀ w8, Below w7.heap.size w7 w8 → Calls Tryd.prog 14 #[.slice a3 k c3] w8 fun e w' => e = .returned (.int .i64 (sizeI l : Int)) ∧ Below w8.heap.size w8 w') := fun w8 hb8 => size_any _ l w8 ((HV3.out.keepsK HK7.out HKV.out).below hb8) (by rw [← HNL.out]; omega) (by have := HSZ.out; omega)
                clear hb7 hO HLI
                rw [hnl]
                generalize S5.now.length = nl at *
                have hi1 : (cntF l : Int) ≤ (nl : Int) := by omega
                have hi2 : (nl : Int) ≤ (cntF l : Int) + 2 := by omega
                have hi3 : (sizeI l : Int) ≤ (usd S5.fl S5.now : Int) := by omega
                go_wp2_with fail
                refine HUS.out.mono ?_
                rintro e w8 ⟨rfl, hb8⟩
                have HB8 : Hid (Below w7.heap.size w7 w8) := hb8
                have HSI8 : Hid (Calls Tryd.prog _ _ _ _) := HSI.out w8 hb8
                clear hb8 HUS HSI
                go_wp2_with fail
                refine HSI8.out.mono ?_
                rintro e w9 ⟨rfl, hb9⟩
                have HB9 : Hid (Below w7.heap.size w7 w9) := HB8.out.trans (hb9.mono HB8.out.size)
                clear hb9 HSI8
                go_wp2
                go_ret
                have h1 : Keeps (fun k => k < w.heap.size) w w9 := (HB3K.out.trans (HK7.out.mono HKW.out)).trans (Keeps.of_below HB9.out (fun k hk => HD7.out.Kb k (HKW.out k hk)))
                exact ⟨rfl, h1.below⟩
end Go.Proofs.YtmjfcneofpddiaaDoor
