/- Contract of the document's Next. -/
import Derived.Test.YthkppipdflmekaaGreatQDynE
import Derived.Test.YthkppipdflmekaaGreatQDCut
import Derived.Test.YthkppipdflmekaaGreatQRefB
set_option maxRecDepth 100000
set_option maxHeartbeats 2000000
namespace Go.Proofs.YthkppipdflmekaaGreat
open Go.RowKit
set_option linter.unusedVariables false
theorem qq8 (f : Nat → Bool) (n : Nat) : pfB f n = qdg (qa8 f n) n := by
 apply List.ext_getElem?
 intro i
 by_cases hi : i < n
 · unfold pfB qdg
   rw [List.getElem?_map, List.getElem?_map, List.getElem?_range hi]
   simp only [Option.map_some]
   rw [qhz]
   rw [show n - 1 - (n - 1 - i) = i by omega]
   simp; omega
 · rw [List.getElem?_eq_none (by rw [qbo]; omega), List.getElem?_eq_none (by rw [qcq]; omega)]
def BN (ns : List Nat) (x n s : Nat) : Prop := n ≤ ln ns s ∧ cdOf ns s / 2 ^ (ln ns s - n) = x
def MN (ns : List Nat) (x n s : Nat) : Prop := ln ns s = n ∧ cdOf ns s = x
theorem MN.bn {ns : List Nat} {x n s : Nat} (h : MN ns x n s) : BN ns x n s := ⟨by have := h.1; omega, by rw [h.1, Nat.sub_self, Nat.pow_zero, Nat.div_one, h.2]⟩
theorem qsl (ns : List Nat) (h15 : qbh ns) (hf : fitB ns = true) (f : Nat → Bool) (n s : Nat) (hn : 0 < n) (hs : s < ns.length) (hp : 0 < ln ns s) : BN ns (qa8 f n) n s ↔ pfB f n <+: qau ns s := by
 have hlt := qw7 ns h15 hf s hs hp
 rw [← qd6 ns s hp] at hlt
 constructor
 · rintro ⟨h1, h2⟩
   rw [qq8, ← h2]
   unfold qau
   rw [← qgv _ _ _ h1]
   exact List.take_prefix _ _
 · intro h
   have hl := h.length_le
   rw [qbo, qai] at hl
   refine ⟨hl, ?_⟩
   have e := List.prefix_iff_eq_take.1 h
   rw [qbo, qq8] at e
   unfold qau at e
   rw [qgv _ _ _ hl] at e
   refine (qnn (qhi f n) ?_ e).symm
   rw [Nat.div_lt_iff_lt_mul (Nat.two_pow_pos _), ← Nat.pow_add, show n + (ln ns s - n) = ln ns s by omega]; exact hlt
theorem qxs (ns : List Nat) (h15 : qbh ns) (hf : fitB ns = true) (f : Nat → Bool) (n s : Nat) (hn : 0 < n) (hs : s < ns.length) : MN ns (qa8 f n) n s ↔ Used ns ns.length s ∧ qau ns s = pfB f n := by
 constructor
 · intro h
   have hp : 0 < ln ns s := by have := h.1; omega
   refine ⟨⟨hs, hp⟩, ?_⟩
   have := (qsl ns h15 hf f n s hn hs hp).1 h.bn
   exact (this.eq_of_length (by rw [qbo, qai, h.1])).symm
 · rintro ⟨h1, h2⟩
   have hl : ln ns s = n := by have := congrArg List.length h2; rwa [qai, qbo] at this
   have hb := (qsl ns h15 hf f n s hn hs h1.2).2 (by rw [h2]; exact List.prefix_refl _)
   have := hb.2
   rw [hl, Nat.sub_self, Nat.pow_zero, Nat.div_one] at this
   exact ⟨hl, this⟩
theorem BN.pos {ns : List Nat} {x n s : Nat} (h : BN ns x n s) (hn : 0 < n) : 0 < ln ns s := by have := h.1; omega
theorem qto (ns : List Nat) (h15 : qbh ns) (hf : fitB ns = true) (f : Nat → Bool) (left j : Nat) (y e : Int) (h : qfo ns f left j y e) :
    (∀ n, 0 < n → n ≤ j → n ≤ left ∧ (∀ s, s < ns.length → ¬ MN ns (qa8 f n) n s) ∧ ∃ s, s < ns.length ∧ BN ns (qa8 f n) n s) ∧
    (left < j + 1 → y = 0 ∧ e = 6) ∧
    (j + 1 ≤ left → (∀ s, s < ns.length → MN ns (qa8 f (j + 1)) (j + 1) s → y = (s : Int) ∧ e = 0) ∧ ((∀ s, s < ns.length → ¬ MN ns (qa8 f (j + 1)) (j + 1) s) → (¬ ∃ s, s < ns.length ∧ BN ns (qa8 f (j + 1)) (j + 1) s) ∧ y = 0 ∧ e = 3)) := by
 obtain ⟨⟨hu, hjl⟩, h⟩ := h
 refine ⟨fun n hn hnj => ⟨by omega, ?_⟩, ?_, ?_⟩
 · rcases hu with rfl | ⟨t, h1, h2, h3⟩
   · omega
   · have hpre := (qkh f n j hnj).trans h2
     refine ⟨fun s hs hm => ?_, t, h1.1, (qsl ns h15 hf f n t hn h1.1 h1.2).2 hpre⟩
     obtain ⟨g1, g2⟩ := (qxs ns h15 hf f n s hn hs).1 hm
     rw [← g2] at hpre
     obtain rfl := qfa ns h15 hf s t hs h1.1 g1.2 h1.2 hpre
     have l1 := congrArg List.length g2
     rw [qai, qbo] at l1
     have l2 := h2.length_le
     rw [qbo, qai] at l2
     exact h3 (h2.eq_of_length (by rw [qbo, qai]; omega))
 · intro hl
   rcases h with ⟨_, h1, h2⟩ | ⟨h1, _⟩
   · exact ⟨h1, h2⟩
   · omega
 · intro hl
   rcases h with ⟨h1, _⟩ | ⟨_, ⟨t, h1, h2, h3, h4⟩ | ⟨h1, h2, h3⟩⟩
   · omega
   · refine ⟨fun s hs hm => ?_, fun hno => absurd ((qxs ns h15 hf f (j + 1) t (by omega) h1.1).2 ⟨h1, h2⟩) (hno t h1.1)⟩
     obtain ⟨g1, g2⟩ := (qxs ns h15 hf f (j + 1) s (by omega) hs).1 hm
     have hpp : qau ns s <+: qau ns t := by rw [g2, h2]; exact List.prefix_refl _
     obtain rfl := qfa ns h15 hf s t hs h1.1 g1.2 h1.2 hpp
     exact ⟨h3, h4⟩
   · have hnb : ∀ s, s < ns.length → ¬ BN ns (qa8 f (j + 1)) (j + 1) s := fun s hs hb => h1 s ⟨hs, hb.pos (by omega)⟩ ((qsl ns h15 hf f (j + 1) s (by omega) hs (hb.pos (by omega))).1 hb)
     refine ⟨fun s hs hm => absurd hm.bn (hnb s hs), fun _ => ⟨fun ⟨s, hs, hb⟩ => hnb s hs hb, h2, h3⟩⟩
def UR (w : World) (v : Value) (n : Nat) (c : Nat → Nat) : Prop := ∃ g cap, v = .slice (some ⟨g, 0, none⟩) n cap ∧ g < w.heap.size ∧ ∀ i, i < n → w.cell? ⟨g, i, none⟩ = some (.int .u32 (c i : Int))
theorem UR.below {w w' : World} {v : Value} {n : Nat} {c : Nat → Nat} (h : UR w v n c) (hb : Below w.heap.size w w') : UR w' v n c := by
 obtain ⟨g, cap, rfl, hg, hc⟩ := h
 exact ⟨g, cap, rfl, Nat.lt_of_lt_of_le hg hb.size, fun i hi => by rw [hb.cell (p := ⟨g, i, none⟩) hg]; exact hc i hi⟩
def uc (c : Nat → Nat) (n : Nat) : List Value := (List.range n).map fun i => .int .u32 (c i : Int)
theorem qua (c : Nat → Nat) (n : Nat) : uc c (n + 1) = uc c n ++ [.int .u32 (c n : Int)] := by unfold uc; rw [List.range_succ, List.map_append]; rfl
theorem uc_at (c : Nat → Nat) (n i : Nat) (h : i < n) : (uc c n)[i]? = some (.int .u32 (c i : Int)) := by unfold uc; rw [List.getElem?_map, List.getElem?_range h]; rfl
theorem Tryz.infoU32 : (Tryz.prog.info? 56).map (fun i => (i.zero, i.size, i.bytes)) = some (some (.int .u32 0), 1, 4) := by kernel_rfl
theorem UR.of {w : World} {B n : Nat} {v : Value} {c : Nat → Nat} (h : w.ownsRow B 56 1 v n (uc c n)) (hne : ¬ v = .slice none 0 0) : UR w v n c := by
 have hlt := h.lt
 rcases h.2 with ⟨q, _⟩ | ⟨g, cap, cur, rfl, _⟩
 · exact absurd q hne
 · exact ⟨g, cap, rfl, (hlt g rfl).2, fun i hi => by rw [h.cellAt i (by omega), uc_at _ _ _ hi]⟩
theorem qgj (v : Value) (zs : List Int) (w : World) (hR : IQ w v zs) (hl : zs.length ≤ 320) (hin : in15 zs) :
    Calls Tryz.prog 70 #[v] w fun e w' => ∃ v', e = .returned v' ∧ (w'.ownsRow w.heap.size 56 1 v' zs.length (uc (cdOf (toN zs)) zs.length) ∧ ¬ v' = .slice none 0 0) ∧ Below w.heap.size w w' := by
 obtain ⟨i0, hi0, hz0, hz1, hz2⟩ := info_parts Tryz.infoU32
 have HI : Hid (IQ w v zs) := hR
 obtain ⟨g, o, cap, rfl, hg, hc⟩ := hR
 have HC : Hid (∀ i, i < zs.length → w.cell? ⟨g, o + i, none⟩ = some (.int .i64 (ln (toN zs) i : Int))) := fun i hi => by rw [hc i hi, qjy zs i hi (hin i hi).1]
 have HL15 : Hid (∀ i, ln (toN zs) i ≤ 15) := fun i => hin.all.at i
 have HCd : Hid (∀ W s, IQ W (.slice (some ⟨g, o, none⟩) zs.length cap) zs → s < zs.length → Calls Tryz.prog 92 #[.slice (some ⟨g, o, none⟩) zs.length cap, .int .i64 (s : Int)] W fun e w' => e = .returned (.int .u32 (cd (toN zs) (ln (toN zs) s) s : Int)) ∧ w' = W) := fun W s h hs => qtd _ zs s W h hl hin hs
 have HO0 : Hid ((w.alloc (.cells #[] 56)).ownsRow w.heap.size 56 1 (.slice (some ⟨w.heap.size, 0, none⟩) 0 0) 0 (uc (cdOf (toN zs)) 0)) := World.ownsRow_made _ _ _ (Nat.le_refl _) (by decide) rfl
 have HB0 : Hid (Below w.heap.size w (w.alloc (.cells #[] 56))) := (Below.refl _ w).alloc (Nat.le_refl _) _
 clear hc hin
 go_enter Tryz.func70, Tryz.ntmps70
 go_wp2
 generalize w.alloc (.cells #[] 56) = W0 at *
 go_loopw [3, 9] (fun l i wr => ∃ k : Nat, k ≤ zs.length ∧ i = .int .i64 (k : Int) ∧ wr.ownsRow w.heap.size 56 1 l k (uc (cdOf (toN zs)) k) ∧ ¬ l = .slice none 0 0 ∧ Below w.heap.size w wr) (fun _ i _ => zs.length - (intOf i).toNat)
 case atStart => exact ⟨0, by omega, rfl, HO0.out, by simp, HB0.out⟩
 case round =>
  clear HO0 HB0
  obtain ⟨k, hk, rfl, hO, hnn, hB⟩ := hrel
  by_cases hlt : k < zs.length
  · have hck : wr.cell? ⟨g, o + k, none⟩ = some (.int .i64 (ln (toN zs) k : Int)) := by rw [hB.cell (p := ⟨g, o + k, none⟩) hg]; exact HC.out k hlt
    have hIR := HI.out.below hB
    have hki : (k : Int) < (zs.length : Int) := by omega
    have hki0 : (0 : Int) ≤ (k : Int) := by omega
    have hsz := hB.size
    have HB : Hid (Below w.heap.size w wr) := hB
    have HO : Hid (wr.ownsRow w.heap.size 56 1 _ k (uc (cdOf (toN zs)) k)) := hO
    clear hB hO hnn
    by_cases hl0 : ln (toN zs) k = 0
    · have hcd0 : cdOf (toN zs) k = 0 := by unfold cdOf; rw [if_neg (by omega)]
      rw [hl0] at hck
      clear hIR
      go_wp2_with (at_builtin; refine wpList_append_own _ rfl _ _ 151 rfl w.heap.size 56 i0 (.int .u32 0) 1 4 Tryz.underlying151 hi0 hz0 hz1 hz2 rfl (by decide) _ _ _ rfl (HO.out.alloc _) ⟨wr.heap.size, 0, none⟩ 1 1 [.int .u32 0] rfl rfl (cell_one_new _ _ _) ?c2 ?c3 ?c4 ?c5 ?_)
      case c2 => intro y hy; simp at hy; subst hy; rfl
      case c3 => unfold maxLen; omega
      case c4 => omega
      case c5 => rw [World.size_alloc]; omega
      intro v8 w8 hown hg8 hnil
      have HO8 : Hid (w8.ownsRow w.heap.size 56 1 v8 (k + 1) (uc (cdOf (toN zs)) (k + 1))) := by unfold Hid; rw [qua, hcd0]; exact hown
      have HB8 : Hid (Below w.heap.size w w8) := (HB.out.alloc hsz _).grown hg8 (by rw [World.size_alloc]; omega) (fun q hq => (HO.out.lt q hq).1)
      clear hown hg8
      go_wp2
      go_roundw
      case rel => exact ⟨k + 1, by omega, by go_num, HO8.out, hnil, HB8.out⟩
      case measure => simp [intOf]; omega
    · have hlp : 0 < ln (toN zs) k := by omega
      have hlpi : (0 : Int) < (ln (toN zs) k : Int) := by omega
      have hcd := qd6 (toN zs) k hlp
      have HCk := HCd.out wr k hIR hlt
      rw [← hcd] at HCk
      have HCk' : Hid (Calls _ _ _ _ _) := HCk
      clear HCk hIR hcd
      go_wp2_with fail
      refine (Hid.out HCk' : Calls _ _ _ _ _).mono ?_
      rintro e w7 ⟨rfl, rfl⟩
      go_wp2_with (at_builtin; refine wpList_append_own _ rfl _ _ 151 rfl w.heap.size 56 i0 (.int .u32 0) 1 4 Tryz.underlying151 hi0 hz0 hz1 hz2 rfl (by decide) _ _ _ rfl (HO.out.alloc _) ⟨w7.heap.size, 0, none⟩ 1 1 [.int .u32 (cdOf (toN zs) k : Int)] rfl rfl (cell_one_new _ _ _) ?c2 ?c3 ?c4 ?c5 ?_)
      case c2 => intro y hy; simp at hy; subst hy; rfl
      case c3 => unfold maxLen; omega
      case c4 => omega
      case c5 => rw [World.size_alloc]; omega
      intro v8 w8 hown hg8 hnil
      have HO8 : Hid (w8.ownsRow w.heap.size 56 1 v8 (k + 1) (uc (cdOf (toN zs)) (k + 1))) := by unfold Hid; rw [qua]; exact hown
      have HB8 : Hid (Below w.heap.size w w8) := (HB.out.alloc hsz _).grown hg8 (by rw [World.size_alloc]; omega) (fun q hq => (HO.out.lt q hq).1)
      clear hown hg8 HCk'
      go_wp2
      go_roundw
      case rel => exact ⟨k + 1, by omega, by go_num, HO8.out, hnil, HB8.out⟩
      case measure => simp [intOf]; omega
  · obtain rfl : k = zs.length := by omega
    have HU : Hid (wr.ownsRow w.heap.size 56 1 _ zs.length (uc (cdOf (toN zs)) zs.length)) := hO
    have HB : Hid (Below w.heap.size w wr) := hB
    clear hO hB
    go_wp2
    go_ret
    exact ⟨_, rfl, ⟨HU.out, hnn⟩, HB.out⟩
theorem qta (vi vc vr : Value) (zs : List Int) (L : List Bool) (C p j : Nat) (y er : Int) (w : World) (hI : IQ w vi zs) (hU : UR w vc zs.length (cdOf (toN zs))) (hO : OB w C vr L) (he : errN zs = 0) (hL : L.length ≤ 1000000) (hp : p ≤ L.length) (hj : j < 15)
    (hN : qfo (toN zs) (fun i => L.getD (p + i) false) (L.length - p) j y er) :
    Calls Tryz.prog 93 #[vi, vc, vr, .int .i64 (p : Int)] w fun e w' => e = .returned (.tuple #[.int .i64 y, .int .i64 ((j + 1 : Nat) : Int), .int .i64 er]) ∧ w' = w := by
 obtain ⟨h320, h15, hfit⟩ := qdu he
 have hS := qto (toN zs) h15.all hfit _ _ _ _ _ hN
 rw [qfh] at hS
 obtain ⟨S1, S2, S3⟩ := hS
 have HNB : Hid (∀ n : Nat, n ≤ 32 → Calls Tryz.prog 43 #[vr, .int .i64 (p : Int), .int .i64 (n : Int), .bool true] w fun e w' => e = .returned (.int .u32 (qa8 (fun i => L.getD (p + i) false) n : Int)) ∧ w' = w) := fun n hn => qo9 vr L C p n w hO hL (by omega) hn
 obtain ⟨gr, capr, rfl, _⟩ := hO
 obtain ⟨gi, oi, capi, rfl, hgi, hci⟩ := hI
 obtain ⟨gu, capu, rfl, hgu, hcu⟩ := hU
 have HCI : Hid (∀ i, i < zs.length → w.cell? ⟨gi, oi + i, none⟩ = some (.int .i64 (ln (toN zs) i : Int))) := fun i hi => by rw [hci i hi, qjy zs i hi (h15 i hi).1]
 have HCU : Hid (∀ i, i < zs.length → w.cell? ⟨gu, i, none⟩ = some (.int .u32 (cdOf (toN zs) i : Int))) := hcu
 have HL15 : Hid (∀ i, ln (toN zs) i ≤ 15) := fun i => h15.all.at i
 have HTL : Hid (∀ n, n ≤ 32 → qa8 (fun i => L.getD (p + i) false) n < 4294967296) := fun n hn => qsn _ n hn
 have HSH : Hid (∀ x k : Nat, (x : Int) / 2 ^ k = ((x / 2 ^ k : Nat) : Int)) := fun x k => by simp
 have H1 : Hid (_ ) := S1
 have H2 : Hid (_ ) := S2
 have H3 : Hid (_ ) := S3
 clear S1 S2 S3 hci hcu hN he hfit h15
 generalize hf : (fun i => L.getD (p + i) false) = f at *
 clear hf
 generalize hLL : L.length = LL at *
 generalize toN zs = ns at *
 have hz320 : zs.length ≤ 320 := h320
 generalize zs.length = K at *
 go_enter Tryz.func93, Tryz.ntmps93
 go_wp2
 go_loop [11] (fun i => ∃ n : Nat, 1 ≤ n ∧ n ≤ j + 1 ∧ i = .int .i64 (n : Int)) (fun i => 20 - (intOf i).toNat)
 case atStart => exact ⟨1, by omega, by omega, rfl⟩
 case round =>
  obtain ⟨n, hn1, hnj, rfl⟩ := hrel
  by_cases hlen : LL < p + n
  · have hli : (LL : Int) < (p : Int) + (n : Int) := by omega
    have e1 : n = j + 1 := by
     by_cases hle : n ≤ j
     · have := (H1.out n (by omega) hle).1; omega
     · omega
    subst e1
    obtain ⟨rfl, rfl⟩ := H2.out (by omega)
    go_wp2
    go_ret3
    exact ⟨by go_num, rfl⟩
  · have hli : ¬ (LL : Int) < (p : Int) + (n : Int) := by omega
    have HNn := HNB.out n (by omega)
    have HNn' : Hid (Calls _ _ _ _ _) := HNn
    have hxlt := HTL.out n (by omega)
    clear HNn
    have HA : Hid (n ≤ j → (∀ s, s < K → ¬ MN ns (qa8 f n) n s) ∧ ∃ s, s < K ∧ BN ns (qa8 f n) n s) := fun h => (H1.out n (by omega) h).2
    have HZ : Hid (n = j + 1 → (∀ s, s < K → MN ns (qa8 f n) n s → y = (s : Int) ∧ er = 0) ∧ ((∀ s, s < K → ¬ MN ns (qa8 f n) n s) → (¬ ∃ s, s < K ∧ BN ns (qa8 f n) n s) ∧ y = 0 ∧ er = 3)) := fun h => by subst h; exact H3.out (by omega)
    generalize qa8 f n = x at *
    go_wp2_with fail
    refine (Hid.out HNn' : Calls _ _ _ _ _).mono ?_
    rintro e w1 ⟨rfl, rfl⟩
    clear HNn'
    go_wp2
    go_loop [13, 32] (fun b i => ∃ (k : Nat) (bb : Bool), k ≤ K ∧ i = .int .i64 (k : Int) ∧ b = .bool bb ∧ (bb = true ↔ ∃ s, s < k ∧ BN ns x n s) ∧ ∀ s, s < k → ¬ MN ns x n s) (fun _ i => K - (intOf i).toNat)
    case atStart => exact ⟨0, false, by omega, rfl, rfl, by simp, fun s hs => by omega⟩
    case round =>
     obtain ⟨k, bb, hk, rfl, rfl, hbb, hnm⟩ := hrel
     have HBB : Hid (bb = true ↔ ∃ s, s < k ∧ BN ns x n s) := hbb
     have HNM : Hid (∀ s, s < k → ¬ MN ns x n s) := hnm
     clear hbb hnm
     by_cases hlt : k < K
     · have hci := HCI.out k hlt
       have hcu := HCU.out k hlt
       have hl15 := HL15.out k
       have hki : (k : Int) < (K : Int) := by omega
       have hki0 : (0 : Int) ≤ (k : Int) := by omega
       have hsh := HSH.out (cdOf ns k) (ln ns k - n)
       have HBk : Hid (BN ns x n k ↔ n ≤ ln ns k ∧ cdOf ns k / 2 ^ (ln ns k - n) = x) := Iff.rfl
       have HMk : Hid (MN ns x n k ↔ ln ns k = n ∧ cdOf ns k = x) := Iff.rfl
       generalize ln ns k = m at *
       generalize hX : cdOf ns k = X at *
       by_cases hmn : m < n
       · have hmi : (m : Int) < (n : Int) := by omega
         have HR : Hid (bb = true ↔ ∃ s, s < k + 1 ∧ BN ns x n s) := by
          unfold Hid; rw [HBB.out]
          constructor
          · rintro ⟨s, h1, h2⟩; exact ⟨s, by omega, h2⟩
          · rintro ⟨s, h1, h2⟩
            refine ⟨s, ?_, h2⟩
            by_cases e : s = k
            · subst e; have := (HBk.out.1 h2).1; omega
            · omega
         have HM : Hid (∀ s, s < k + 1 → ¬ MN ns x n s) := fun s hs hm => by
          by_cases e : s = k
          · subst e; have := (HMk.out.1 hm).1; omega
          · exact HNM.out s (by omega) hm
         clear hsh
         go_wp2
         go_round
         case rel => exact ⟨k + 1, bb, by omega, by go_num, rfl, HR.out, HM.out⟩
         case measure => simp [intOf]; omega
       · have hmi : ¬ (m : Int) < (n : Int) := by omega
         by_cases hM : m = n ∧ X = x
         · have hMk := HMk.out.2 hM
           obtain ⟨rfl, rfl⟩ := hM
           have e1 : m = j + 1 := by
            by_cases hle : m ≤ j
            · exact absurd hMk ((HA.out hle).1 k hlt)
            · omega
           obtain ⟨rfl, rfl⟩ := (HZ.out e1).1 k hlt hMk
           clear hMk hsh
           subst e1
           go_wp2
           go_ret3
           exact ⟨by go_num, rfl⟩
         · have hsub : ((m : Int) - (n : Int)).toNat = m - n := by omega
           have hsub0 : (0 : Int) ≤ (m : Int) - (n : Int) := by omega
           have HM : Hid (∀ s, s < k + 1 → ¬ MN ns x n s) := fun s hs hm => by
            by_cases e : s = k
            · subst e; exact hM (HMk.out.1 hm)
            · exact HNM.out s (by omega) hm
           have HR : Hid (∀ c : Bool, (c = true ↔ X / 2 ^ (m - n) = x) → ((bb || c) = true ↔ ∃ s, s < k + 1 ∧ BN ns x n s)) := fun c hc => by
            rw [Bool.or_eq_true, HBB.out, hc]
            constructor
            · rintro (⟨s, h1, h2⟩ | h)
              · exact ⟨s, by omega, h2⟩
              · exact ⟨k, by omega, HBk.out.2 ⟨by omega, h⟩⟩
            · rintro ⟨s, h1, h2⟩
              by_cases e : s = k
              · subst e; exact .inr (HBk.out.1 h2).2
              · exact .inl ⟨s, by omega, h2⟩
           generalize X / 2 ^ (m - n) = Z at *
           have HR2 : Hid ((bb || decide (Z = x)) = true ↔ ∃ s, s < k + 1 ∧ BN ns x n s) := HR.out _ (by simp)
           have HM2 : Hid (m = n → ¬ X = x) := fun h1 h2 => hM ⟨h1, h2⟩
           clear HR HBk HMk hM HBB HNM HA HZ
           have hcase : (((m : Int) == (n : Int)) = true ∧ ((X : Int) == (x : Int)) = false) ∨ ((m : Int) == (n : Int)) = false := by
            by_cases e : m = n
            · refine .inl ⟨by simp; omega, ?_⟩
              have := HM2.out e
              simp; omega
            · exact .inr (by simp; omega)
           rcases hcase with ⟨b1, b2⟩ | b1
           all_goals
            cases bb
            · by_cases hZ : Z = x
              · have HR3 : Hid (true = true ↔ ∃ s, s < k + 1 ∧ BN ns x n s) := by have := HR2.out; rw [decide_eq_true hZ] at this; exact this
                have b3 : ((Z : Int) == (x : Int)) = true := by simp; omega
                clear HR2 hZ
                go_wp2
                go_round
                case rel => exact ⟨k + 1, true, by omega, by go_num, rfl, HR3.out, HM.out⟩
                case measure => simp [intOf]; omega
              · have HR3 : Hid (false = true ↔ ∃ s, s < k + 1 ∧ BN ns x n s) := by have := HR2.out; rw [decide_eq_false hZ] at this; exact this
                have b3 : ((Z : Int) == (x : Int)) = false := by simp; omega
                clear HR2 hZ
                go_wp2
                go_round
                case rel => exact ⟨k + 1, false, by omega, by go_num, rfl, HR3.out, HM.out⟩
                case measure => simp [intOf]; omega
            · have HR3 : Hid (true = true ↔ ∃ s, s < k + 1 ∧ BN ns x n s) := by have := HR2.out; rw [Bool.true_or] at this; exact this
              clear HR2
              go_wp2
              go_round
              case rel => exact ⟨k + 1, true, by omega, by go_num, rfl, HR3.out, HM.out⟩
              case measure => simp [intOf]; omega
     · obtain rfl : k = K := by omega
       by_cases hle : n ≤ j
       · have hbt : bb = true := HBB.out.2 (HA.out hle).2
         subst hbt
         go_wp2
         go_round
         case rel => exact ⟨n + 1, by omega, by omega, by go_num⟩
         case measure => simp [intOf]; omega
       · have e1 : n = j + 1 := by omega
         obtain ⟨h1, rfl, rfl⟩ := (HZ.out e1).2 HNM.out
         have hbf : bb = false := by
          cases bb
          · rfl
          · exact absurd (HBB.out.1 rfl) h1
         subst hbf
         subst e1
         clear h1
         go_wp2
         go_ret3
         exact ⟨by go_num, rfl⟩
end Go.Proofs.YthkppipdflmekaaGreat
