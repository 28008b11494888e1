/- The walk of WalkUnder. -/
import Derived.Test.YtdgicclmjloigaaDoorWkN
import Derived.Test.YtdgicclmjloigaaDoorOpsI
namespace Go.Proofs.YtdgicclmjloigaaDoor
open Go.RowKit Go.Maps
set_option linter.unusedVariables false
set_option linter.unusedSimpArgs false

def kepB (x : It) : Bool := match x.p with
  | [] => false
  | c :: _ => decide (c ≠ 47)
theorem kep_snoc (l : List It) (x : It) : (l ++ [x]).filter kepB = l.filter kepB ++ if kepB x then [x] else [] := by
  rw [List.filter_append]; congr 1; simp only [List.filter_cons, List.filter_nil]
theorem IV.grown {w w' : World} {fa : Option Addr} {n fc : Nat} {l : List It} {b : Option Nat} (h : IV w (.slice fa n fc) l) (hg : w.grownBy w' b) (hne : ∀ k, b = some k → ∀ ad, fa = some ad → ad.block ≠ k) : IV w' (.slice fa n fc) l := by
  obtain ⟨a', cap', e, hc, hz, hf⟩ := h
  injection e with e1 e2 e3
  subst e1 e2 e3
  refine ⟨fa, fc, rfl, hc, hz, fun hn => ?_⟩
  obtain ⟨g, o, rfl, hlt, hcl⟩ := hf hn
  refine ⟨g, o, rfl, Nat.lt_of_lt_of_le hlt hg.size, fun j u hu => ?_⟩
  have := hcl j u hu
  unfold World.cell? at this ⊢
  rw [show w'.heap[(⟨g, o + j, none⟩ : Addr).block]? = w.heap[g]? from hg.block g hlt (fun k => hne g k.symm _ rfl rfl)]
  exact this
set_option maxRecDepth 100000 in
/-- append(s, x) for one item x; where it lies afterwards. -/
theorem append_it2 {w : World} {ops : Array Oper} {rest : List Oper} {o : Oper} {a : Act} {Q : Exit → Act → World → Prop} (hgd : o.guard = none) (s y : Operand)
    (ho : o.op = .call { callee := .builtin .append, args := #[s, y], argTypes := #[22, 22] })
    (B : Nat) (v : Value) (l : List It) (x : It) (hs : a.eval s = v) (hx : a.eval y = .slice (some ⟨w.heap.size, 0, none⟩) 1 1) (hO : IO w B v l) (hl : l.length + 1 ≤ 1000000) (hB : B ≤ w.heap.size)
    (h : ∀ a' c' w', IO w' B (.slice a' (l.length + 1) c') (l ++ [x]) → w.grownBy w' v.ownBlock → ((Value.slice a' (l.length + 1) c').ownBlock = v.ownBlock ∨ (Value.slice a' (l.length + 1) c').ownBlock = some (w.heap.size + 1)) → wpList Tryd.prog ops Q rest (a.put o.dst (.slice a' (l.length + 1) c')) w') : wpList Tryd.prog ops Q (o :: rest) a (w.alloc (.cells (itV x) 25)) := by
  obtain ⟨i0, hi, hz0, hz1, hz2⟩ := info_parts Tryd.infoIt
  have hb : Below w.heap.size w (w.alloc (.cells (itV x) 25)) := (Below.refl _ _).alloc (Nat.le_refl _) _
  have hN : ∀ j u, (itsC [x])[j]? = some u → (w.alloc (.cells (itV x) 25)).cell? ((⟨w.heap.size, 0, none⟩ : Addr).add j) = some u := fun j u hu => World.ownsRow.cells (IO.made w x) (g := w.heap.size) rfl j u hu
  refine wpList_append_own_at _ hgd s y 22 ho B 25 i0 (.agg #[.string ⟨#[]⟩, .int .i64 0, .int .i64 0, .int .i64 0, .string ⟨#[]⟩]) 5 56 Tryd.underlying22 hi hz0 hz1 hz2 rfl (by decide) v _ _ hs (hO.below hb) ⟨w.heap.size, 0, none⟩ 1 1 (itsC [x]) hx (by rw [itsC_len]; rfl) hN (itsC_one _) (by unfold maxLen; omega) (by omega) (by rw [World.size_alloc]; omega) ?_
  intro v' w' hown hg _ hob
  rw [World.size_alloc] at hob
  have hO' : IO w' B v' (l ++ [x]) := by unfold IO; rw [itsC_append, List.length_append]; exact hown
  obtain ⟨a', c', rfl⟩ := hO'.shape
  have e : (l ++ [x]).length = l.length + 1 := by simp
  rw [e] at hO' hob ⊢
  have hgb : w.grownBy (w.alloc (.cells (itV x) 25)) v.ownBlock := ⟨hb.os, hb.tape, hb.output, hb.size, fun k hk _ => hb.block k hk⟩
  exact h a' c' w' hO' ⟨hg.os.trans hgb.os, hg.tape.trans hgb.tape, hg.output.trans hgb.output, Nat.le_trans hgb.size hg.size, fun i hi hn => (hg.block i (Nat.lt_of_lt_of_le hi hgb.size) hn).trans (hgb.block i hi hn)⟩ hob
set_option maxRecDepth 100000 in
set_option maxHeartbeats 4000000 in
theorem lawWalkUnder_walk (a0 : Option Addr) (len0 cap0 : Nat) (z0 : List It) (a1 : ByteArray) (w : World) (b0 : IsIts w a0 len0 cap0 z0) (b1 : a1.size ≤ 140737488351232) (hL : Lay11 w) :
    Calls Tryd.prog 3 #[.slice a0 len0 cap0, .string a1] w fun e w' => e = .returned (.bool true) ∧ Below w.heap.size w w' := by
  obtain ⟨q, rfl⟩ : ∃ q, a1 = mkB q := ⟨_, mkB_of a1⟩
  have zq := mkB_size q
  rw [zq] at b1
  obtain ⟨hlen, hl63, hok, hiv⟩ := b0
  obtain ⟨l, hl⟩ : ∃ l, l = z0.take 100 := ⟨_, rfl⟩
  have HOK : Hid (∀ x ∈ l, x.p.length ≤ 9223372036854775807) := fun x hx => (hok x (List.mem_of_mem_take (by rw [← hl]; exact hx))).2.2.2.1
  have hl100 : l.length ≤ 100 := by rw [hl, List.length_take]; omega
  have HF : Hid (Calls Tryd.prog _ _ _ _) := few13_any a0 len0 cap0 z0 100 (w.alloc (.cells #[] 25)) (hiv.below ((Below.refl _ _).alloc (Nat.le_refl _) _)) hlen (by decide) hl63
  rw [← hl] at HF
  have HE0 : Hid (IO (w.alloc (.cells #[] 25)) w.heap.size (.slice (some ⟨w.heap.size, 0, none⟩) 0 0) []) := IO.empty w
  have HBA : Hid (Below w.heap.size w (w.alloc (.cells #[] 25))) := (Below.refl _ _).alloc (Nat.le_refl _) _
  clear hok hiv hlen hl63 hl
  go_enter Tryd.func3, Tryd.ntmps3
  go_wp2_with fail
  refine HF.out.mono ?_
  rintro e w1 ⟨fa, fc, rfl, hfo, hfb⟩
  have HO1 : Hid (IO w1 w.heap.size (.slice (some ⟨w.heap.size, 0, none⟩) 0 0) []) := HE0.out.below hfb
  have HB1 : Hid (Below w.heap.size w w1) := HBA.out.trans (hfb.mono HBA.out.size)
  have HIV : Hid (IV w1 (.slice fa l.length fc) l) := hfo.iv
  have HNB : Hid (∀ k, (Value.slice (some ⟨w.heap.size, 0, none⟩) 0 0).ownBlock = some k → ∀ ad, fa = some ad → ad.block ≠ k) := by
    intro k hk ad had e
    cases hk
    have := (hfo.lt ad.block (by rw [had]; rfl)).1
    rw [World.size_alloc] at this
    have e' : ad.block = w.heap.size := e
    omega
  have HLy : Hid (Lay11 w) := hL
  clear hfo hfb HE0 HBA HF hL
  obtain ⟨n, hn⟩ : ∃ n, n = l.length := ⟨_, rfl⟩
  have HN : Hid (n = l.length) := hn
  rw [← hn] at hl100 HIV
  rw [← hn]
  clear hn
  go_wp2
  go_loopw [5, 6, 13] (fun s z i wr => ∃ (k : Nat) (ua : Option Addr) (uc : Nat), k ≤ n ∧ i = .int .i64 (k : Int) ∧ s = .slice ua ((l.take k).filter kepB).length uc ∧ z = .int .i64 (sizeW ((l.take k).filter kepB)) ∧ IO wr w.heap.size (.slice ua ((l.take k).filter kepB).length uc) ((l.take k).filter kepB) ∧ Below w.heap.size w wr ∧ IV wr (.slice fa n fc) l ∧ (∀ j, (Value.slice ua ((l.take k).filter kepB).length uc).ownBlock = some j → ∀ ad, fa = some ad → ad.block ≠ j)) (fun _ _ i _ => n - (intOf i).toNat)
  case atStart => exact ⟨0, some ⟨w.heap.size, 0, none⟩, 0, Nat.zero_le _, rfl, rfl, rfl, HO1.out, HB1.out, HIV.out, HNB.out⟩
  case round =>
    obtain ⟨k, ua, uc, hk, rfl, rfl, rfl, hO, hb, hI, hne⟩ := hrel
    have HO : Hid (IO wr w.heap.size (.slice ua ((l.take k).filter kepB).length uc) ((l.take k).filter kepB)) := hO
    have HB : Hid (Below w.heap.size w wr) := hb
    have HI : Hid (IV wr (.slice fa n fc) l) := hI
    have HNE : Hid (∀ j, (Value.slice ua ((l.take k).filter kepB).length uc).ownBlock = some j → ∀ ad, fa = some ad → ad.block ≠ j) := hne
    clear hO hb hI hne HO1 HB1 HIV HNB
    by_cases hlt : k < n
    · obtain ⟨x, hx⟩ : ∃ x, l[k]? = some x := ⟨_, List.getElem?_eq_getElem (by rw [← HN.out]; exact hlt)⟩
      have hlti : (k : Int) < (n : Int) := by omega
      have HXP : Hid (x.p.length ≤ 9223372036854775807) := HOK.out x (List.mem_of_getElem? hx)
      obtain ⟨g, o, rfl, hg, -, hcap, c0, c1, c2, c3, c4⟩ := HI.out.at hx
      have HFB : Hid (∀ ad, some (⟨g, o, none⟩ : Addr) = some ad → ad.block < wr.heap.size) := fun ad e => by cases e; exact hg
      have HT : Hid ((l.take (k + 1)).filter kepB = (l.take k).filter kepB ++ if kepB x then [x] else []) := by unfold Hid; rw [List.take_add_one, hx]; exact kep_snoc _ x
      have HLE : ((l.take k).filter kepB).length ≤ k := Nat.le_trans (List.length_filter_le _ _) (by rw [List.length_take]; omega)
      generalize (l.take k).filter kepB = F at *
      have hzo := zeroIt
      obtain ⟨W2, hW2⟩ : ∃ W2, W2 = wr.alloc (.cells #[.string (mkB x.p), .int .i64 x.k, .int .i64 x.m, .int .i64 x.t, .string (mkB x.d)] 25) := ⟨_, rfl⟩
      have hb2 : Below wr.heap.size wr W2 := by rw [hW2]; exact (Below.refl _ _).alloc (Nat.le_refl _) _
      have hnew : W2.heap[wr.heap.size]? = some (.cells #[.string (mkB x.p), .int .i64 x.k, .int .i64 x.m, .int .i64 x.t, .string (mkB x.d)] 25 (0, 0)) := by rw [hW2]; exact heap_alloc_new wr _
      have HB2 : Hid (Below w.heap.size w W2) := HB.out.trans (hb2.mono HB.out.size)
      have HO2 : Hid (IO W2 w.heap.size (.slice ua F.length uc) F) := HO.out.below hb2
      have HI2 : Hid (IV W2 (.slice (some ⟨g, o, none⟩) n fc) l) := HI.out.below hb2
      have HOB : Hid ((Value.slice ua F.length uc).ownBlock ≠ some wr.heap.size) := fun e => by have := (HO.out.lt _ e).2; omega
      have HX2 : Hid (W2.heap[wr.heap.size]? = some (.cells #[.string (mkB x.p), .int .i64 x.k, .int .i64 x.m, .int .i64 x.t, .string (mkB x.d)] 25 (0, 0))) := hnew
      have b0 : W2.cell? ⟨wr.heap.size, 0, none⟩ = some (.string (mkB x.p)) := by unfold World.cell?; rw [hnew]; rfl
      have hsz2 : wr.heap.size < W2.heap.size := (Array.getElem?_eq_some_iff.1 hnew).1
      have HW2 : Hid (wr.alloc (.cells #[.string (mkB x.p), .int .i64 x.k, .int .i64 x.m, .int .i64 x.t, .string (mkB x.d)] 25) = W2) := hW2.symm
      have HO2' : Hid (IO (wr.alloc (.cells #[.string (mkB x.p), .int .i64 x.k, .int .i64 x.m, .int .i64 x.t, .string (mkB x.d)] 25)) w.heap.size (.slice ua F.length uc) F) := by unfold Hid; rw [HW2.out]; exact HO2.out
      have HB2' : Hid (Below w.heap.size w (wr.alloc (.cells #[.string (mkB x.p), .int .i64 x.k, .int .i64 x.m, .int .i64 x.t, .string (mkB x.d)] 25))) := by unfold Hid; rw [HW2.out]; exact HB2.out
      have HI2' : Hid (IV (wr.alloc (.cells #[.string (mkB x.p), .int .i64 x.k, .int .i64 x.m, .int .i64 x.t, .string (mkB x.d)] 25)) (.slice (some ⟨g, o, none⟩) n fc) l) := by unfold Hid; rw [HW2.out]; exact HI2.out
      have HSZ : Hid (W2.heap.size = wr.heap.size + 1) := by unfold Hid; rw [hW2]; simp
      have HZ : Hid (w.heap.size ≤ W2.heap.size) := HB2.out.size
      have zp := mkB_size x.p
      clear hb2 hnew hW2
      cases hxp : x.p with
      | nil =>
          have HU : Hid (kepB x = false) := by unfold Hid kepB; rw [hxp]
          have hz0 : (mkB x.p).size = 0 := by rw [zp, hxp]; rfl
          clear hxp zp
          have HT2 : Hid ((l.take (k + 1)).filter kepB = F) := by unfold Hid; rw [HT.out, HU.out]; simp
          go_wp2
          go_roundw
          case rel => exact ⟨k + 1, ua, uc, by omega, by go_num, by rw [HT2.out], by rw [HT2.out], by rw [HT2.out]; exact HO2'.out, HB2'.out, HI2'.out, by rw [HT2.out]; exact HNE.out⟩
          case measure => simp [intOf]; omega
      | cons c t =>
        have hzp : ¬ (((mkB x.p).size : Int) ≤ 0) := by rw [zp, hxp]; simp
        have hzp2 : 0 < (mkB x.p).size := by rw [zp, hxp]; simp
        have hc0 : (mkB x.p)[0]'hzp2 = c := by
          have e : (mkB x.p).data[0]? = some c := by unfold mkB; rw [hxp]; simp
          exact (Array.getElem?_eq_some_iff.1 e).2
        by_cases h47 : c = 47
        · have HU : Hid (kepB x = false) := by unfold Hid kepB; rw [hxp]; simp [h47]
          have hci : (((mkB x.p)[0]'hzp2).toNat : Int) = 47 := by rw [hc0, h47]; rfl
          clear hxp zp h47 hc0
          have HT2 : Hid ((l.take (k + 1)).filter kepB = F) := by unfold Hid; rw [HT.out, HU.out]; simp
          go_wp2
          go_roundw
          case rel => exact ⟨k + 1, ua, uc, by omega, by go_num, by rw [HT2.out], by rw [HT2.out], by rw [HT2.out]; exact HO2'.out, HB2'.out, HI2'.out, by rw [HT2.out]; exact HNE.out⟩
          case measure => simp [intOf]; omega
        · have HU : Hid (kepB x = true) := by unfold Hid kepB; rw [hxp]; simp [h47]
          have hci : ((((mkB x.p)[0]'hzp2).toNat : Int) == 47) = false := by rw [hc0, beq_eq_false_iff_ne]; intro h; exact h47 (UInt8.toNat_inj.1 (by show c.toNat = 47; omega))
          clear hxp zp h47 hc0
          have zd := mkB_size x.d
          by_cases hk2 : x.k = 2
          · have HK2 : Hid (x.k = 2) := hk2
            clear hk2
            go_wp2_with (at_builtin; rw [show wr.alloc (.cells #[.string (mkB x.p), .int .i64 x.k, .int .i64 x.m, .int .i64 x.t, .string (mkB x.d)] 25) = W2 from HW2.out]; refine append_it2 rfl _ _ rfl w.heap.size (.slice ua F.length uc) F x rfl (by rw [HSZ.out]; rfl) HO2.out (by omega) HZ.out ?_; intro a' c' w3 hO3 hg3 hob; have hx3 := (hg3.block wr.heap.size hsz2 HOB.out.symm).trans HX2.out; have e1 : w3.cell? ⟨wr.heap.size, 1, none⟩ = some (.int .i64 2) := (by unfold World.cell?; rw [hx3]; rw [HK2.out]; rfl); have e4 : w3.cell? ⟨wr.heap.size, 4, none⟩ = some (.string (mkB x.d)) := (by unfold World.cell?; rw [hx3]; rfl); have hs3 : wr.heap.size < w3.heap.size := (Array.getElem?_eq_some_iff.1 hx3).1)
            have HO3 : Hid (IO w3 w.heap.size (.slice a' (F.length + 1) c') ((l.take (k + 1)).filter kepB)) := by unfold Hid; rw [HT.out, HU.out, if_pos rfl]; exact hO3
            have HB3 : Hid (Below w.heap.size w w3) := HB2.out.grown hg3 HZ.out (fun k hk => (HO2.out.lt k hk).1)
            have HI3 : Hid (IV w3 (.slice (some ⟨g, o, none⟩) n fc) l) := HI2.out.grown hg3 HNE.out
            have HNE3 : Hid (∀ j, (Value.slice a' (F.length + 1) c').ownBlock = some j → ∀ ad, some (⟨g, o, none⟩ : Addr) = some ad → ad.block ≠ j) := by
              intro j hj ad had
              rcases hob with hob | hob
              · exact HNE.out j (by rw [← hob]; exact hj) ad had
              · rw [hob] at hj
                cases hj
                have := HFB.out ad had
                rw [HSZ.out]; omega
            have HL3 : Hid (((l.take (k + 1)).filter kepB).length = F.length + 1) := by unfold Hid; rw [HT.out, HU.out, if_pos rfl]; simp
            have HS3 : Hid (sizeW ((l.take (k + 1)).filter kepB) = addW (sizeW F) x) := by unfold Hid; rw [HT.out, HU.out, if_pos rfl]; exact sizeW_snoc _ _
            have HS4 : Hid (sizeW ((l.take (k + 1)).filter kepB) = wrap64 (sizeW F + (x.d.length : Int))) := by unfold Hid; rw [HS3.out, addW, if_pos HK2.out]
            clear hO3 hg3 hob hx3
            go_wp2
            go_roundw
            case rel => exact ⟨k + 1, a', c', by omega, by go_num, by rw [HL3.out], by rw [HS4.out], by rw [HL3.out]; exact HO3.out, HB3.out, HI3.out, by rw [HL3.out]; exact HNE3.out⟩
            case measure => simp [intOf]; omega
          · have hkb : (x.k == 2) = false := by rw [beq_eq_false_iff_ne]; exact hk2
            go_wp2_with (at_builtin; rw [show wr.alloc (.cells #[.string (mkB x.p), .int .i64 x.k, .int .i64 x.m, .int .i64 x.t, .string (mkB x.d)] 25) = W2 from HW2.out]; refine append_it2 rfl _ _ rfl w.heap.size (.slice ua F.length uc) F x rfl (by rw [HSZ.out]; rfl) HO2.out (by omega) HZ.out ?_; intro a' c' w3 hO3 hg3 hob; have hx3 := (hg3.block wr.heap.size hsz2 HOB.out.symm).trans HX2.out; have e1 : w3.cell? ⟨wr.heap.size, 1, none⟩ = some (.int .i64 x.k) := (by unfold World.cell?; rw [hx3]; rfl); have e4 : w3.cell? ⟨wr.heap.size, 4, none⟩ = some (.string (mkB x.d)) := (by unfold World.cell?; rw [hx3]; rfl); have hs3 : wr.heap.size < w3.heap.size := (Array.getElem?_eq_some_iff.1 hx3).1)
            have HO3 : Hid (IO w3 w.heap.size (.slice a' (F.length + 1) c') ((l.take (k + 1)).filter kepB)) := by unfold Hid; rw [HT.out, HU.out, if_pos rfl]; exact hO3
            have HB3 : Hid (Below w.heap.size w w3) := HB2.out.grown hg3 HZ.out (fun k hk => (HO2.out.lt k hk).1)
            have HI3 : Hid (IV w3 (.slice (some ⟨g, o, none⟩) n fc) l) := HI2.out.grown hg3 HNE.out
            have HNE3 : Hid (∀ j, (Value.slice a' (F.length + 1) c').ownBlock = some j → ∀ ad, some (⟨g, o, none⟩ : Addr) = some ad → ad.block ≠ j) := by
              intro j hj ad had
              rcases hob with hob | hob
              · exact HNE.out j (by rw [← hob]; exact hj) ad had
              · rw [hob] at hj
                cases hj
                have := HFB.out ad had
                rw [HSZ.out]; omega
            have HL3 : Hid (((l.take (k + 1)).filter kepB).length = F.length + 1) := by unfold Hid; rw [HT.out, HU.out, if_pos rfl]; simp
            have HS3 : Hid (sizeW ((l.take (k + 1)).filter kepB) = addW (sizeW F) x) := by unfold Hid; rw [HT.out, HU.out, if_pos rfl]; exact sizeW_snoc _ _
            have HS4 : Hid (sizeW ((l.take (k + 1)).filter kepB) = sizeW F) := by unfold Hid; rw [HS3.out, addW, if_neg hk2]
            clear hO3 hg3 hob hx3
            go_wp2
            go_roundw
            case rel => exact ⟨k + 1, a', c', by omega, by go_num, by rw [HL3.out], by rw [HS4.out], by rw [HL3.out]; exact HO3.out, HB3.out, HI3.out, by rw [HL3.out]; exact HNE3.out⟩
            case measure => simp [intOf]; omega
    · have hlti : ¬ (k : Int) < (n : Int) := by omega
      have HE : Hid ((l.take k).filter kepB = l.filter kepB) := by unfold Hid; rw [List.take_of_length_le (by rw [← HN.out]; omega)]
      rw [HE.out] at HO ⊢
      have HFP : Hid (∀ x ∈ l.filter kepB, x.p.length ≤ 9223372036854775807) := fun x hx => HOK.out x ((List.mem_filter.1 hx).1)
      have hfl : (l.filter kepB).length ≤ 100 := Nat.le_trans (List.length_filter_le _ _) (by rw [← HN.out]; exact hl100)
      clear HE HNE HOK
      generalize l.filter kepB = F at *
      have HUL : Hid ((undL q F).length ≤ 1000) := by
        unfold Hid undL; split
        · simp
        · exact Nat.le_trans (List.length_filter_le _ _) (by omega)
      have HQZ : Hid (q.length ≤ 140737488351232) := b1
      have HCA : Hid (Calls Tryd.prog _ _ _ _) := awake13_any wr (HLy.out.below HB.out)
      cases hqc : q with
      | nil =>
        have hz0 : (mkB q).size = 0 := by rw [zq, hqc]; rfl
        rw [← hqc]
        clear hqc zq
        go_wp2_with fail
        refine HCA.out.mono ?_
        rintro e w2 ⟨rfl, hb2⟩
        have HB2 : Hid (Below w.heap.size w w2) := HB.out.trans (hb2.mono HB.out.size)
        have HO2 : Hid (IO w2 w.heap.size (.slice ua F.length uc) F) := HO.out.below hb2
        have HCS : Hid (Calls Tryd.prog _ _ _ _) := sizeW_any (.slice ua F.length uc) F w2 HO2.out.iv (by omega)
        clear hb2
        go_wp2_with fail
        refine HCS.out.mono ?_
        rintro e w3 ⟨rfl, hb3⟩
        have HB3 : Hid (Below w.heap.size w w3) := HB2.out.trans (hb3.mono HB2.out.size)
        have HO3 : Hid (IO w3 w.heap.size (.slice ua F.length uc) F) := HO2.out.below hb3
        clear hb3
        have HCU : Hid (Calls Tryd.prog _ _ _ _) := under_any (.slice ua F.length uc) F q w3 HO3.out.iv (by omega) HFP.out HQZ.out
        go_wp2_with fail
        refine HCU.out.mono ?_
        rintro e w4 ⟨a4, c4, rfl, hO4, hb4⟩
        have HB4 : Hid (Below w.heap.size w w4) := HB3.out.trans (hb4.mono HB3.out.size)
        have HO4 : Hid (IO w4 w.heap.size (.slice ua F.length uc) F) := HO3.out.below hb4
        have HCR : Hid (Calls Tryd.prog _ _ _ _) := runder_any (.slice ua F.length uc) F q w4 HO4.out.iv (by omega) HFP.out HQZ.out
        have HI4 : Hid (IV w4 (.slice a4 (undL q F).length c4) (undL q F)) := hO4.iv
        clear hb4 hO4
        go_wp2_with fail
        refine HCR.out.mono ?_
        rintro e w5 ⟨a5, c5, rfl, hO5, hb5⟩
        have HB5 : Hid (Below w.heap.size w w5) := HB4.out.trans (hb5.mono HB4.out.size)
        have HCM : Hid (Calls Tryd.prog _ _ _ _) := same_one (.slice a4 (undL q F).length c4) (.slice a5 (undL q F).length c5) (undL q F) w5 (HI4.out.below hb5) hO5.iv HUL.out
        clear hb5 hO5
        go_wp2_with fail
        refine HCM.out.mono ?_
        rintro e w6 ⟨rfl, hb6⟩
        have HB6 : Hid (Below w.heap.size w w6) := HB5.out.trans (hb6.mono HB5.out.size)
        clear hb6
        go_wp2
        go_ret
        exact ⟨rfl, HB6.out⟩
      | cons c t =>
        have hzp2 : 0 < (mkB q).size := by rw [zq, hqc]; simp
        have hc0 : (mkB q)[0]'hzp2 = c := by
          have e : (mkB q).data[0]? = some c := by unfold mkB; rw [hqc]; simp
          exact (Array.getElem?_eq_some_iff.1 e).2
        rw [← hqc]
        by_cases h47 : c = 47
        · have hci : (((mkB q)[0]'hzp2).toNat : Int) = 47 := by rw [hc0, h47]; rfl
          clear hqc zq hc0 h47
          go_wp2_with fail
          refine HCA.out.mono ?_
          rintro e w2 ⟨rfl, hb2⟩
          have HB2 : Hid (Below w.heap.size w w2) := HB.out.trans (hb2.mono HB.out.size)
          have HO2 : Hid (IO w2 w.heap.size (.slice ua F.length uc) F) := HO.out.below hb2
          have HCS : Hid (Calls Tryd.prog _ _ _ _) := sizeW_any (.slice ua F.length uc) F w2 HO2.out.iv (by omega)
          clear hb2
          go_wp2_with fail
          refine HCS.out.mono ?_
          rintro e w3 ⟨rfl, hb3⟩
          have HB3 : Hid (Below w.heap.size w w3) := HB2.out.trans (hb3.mono HB2.out.size)
          have HO3 : Hid (IO w3 w.heap.size (.slice ua F.length uc) F) := HO2.out.below hb3
          clear hb3
          go_wp2
          go_ret
          exact ⟨rfl, HB3.out⟩
        · have hci : ((((mkB q)[0]'hzp2).toNat : Int) == 47) = false := by rw [hc0, beq_eq_false_iff_ne]; intro h; exact h47 (UInt8.toNat_inj.1 (by show c.toNat = 47; omega))
          clear hqc zq hc0 h47
          go_wp2_with fail
          refine HCA.out.mono ?_
          rintro e w2 ⟨rfl, hb2⟩
          have HB2 : Hid (Below w.heap.size w w2) := HB.out.trans (hb2.mono HB.out.size)
          have HO2 : Hid (IO w2 w.heap.size (.slice ua F.length uc) F) := HO.out.below hb2
          have HCS : Hid (Calls Tryd.prog _ _ _ _) := sizeW_any (.slice ua F.length uc) F w2 HO2.out.iv (by omega)
          clear hb2
          go_wp2_with fail
          refine HCS.out.mono ?_
          rintro e w3 ⟨rfl, hb3⟩
          have HB3 : Hid (Below w.heap.size w w3) := HB2.out.trans (hb3.mono HB2.out.size)
          have HO3 : Hid (IO w3 w.heap.size (.slice ua F.length uc) F) := HO2.out.below hb3
          clear hb3
          have HCU : Hid (Calls Tryd.prog _ _ _ _) := under_any (.slice ua F.length uc) F q w3 HO3.out.iv (by omega) HFP.out HQZ.out
          go_wp2_with fail
          refine HCU.out.mono ?_
          rintro e w4 ⟨a4, c4, rfl, hO4, hb4⟩
          have HB4 : Hid (Below w.heap.size w w4) := HB3.out.trans (hb4.mono HB3.out.size)
          have HO4 : Hid (IO w4 w.heap.size (.slice ua F.length uc) F) := HO3.out.below hb4
          have HCR : Hid (Calls Tryd.prog _ _ _ _) := runder_any (.slice ua F.length uc) F q w4 HO4.out.iv (by omega) HFP.out HQZ.out
          have HI4 : Hid (IV w4 (.slice a4 (undL q F).length c4) (undL q F)) := hO4.iv
          clear hb4 hO4
          go_wp2_with fail
          refine HCR.out.mono ?_
          rintro e w5 ⟨a5, c5, rfl, hO5, hb5⟩
          have HB5 : Hid (Below w.heap.size w w5) := HB4.out.trans (hb5.mono HB4.out.size)
          have HCM : Hid (Calls Tryd.prog _ _ _ _) := same_one (.slice a4 (undL q F).length c4) (.slice a5 (undL q F).length c5) (undL q F) w5 (HI4.out.below hb5) hO5.iv HUL.out
          clear hb5 hO5
          go_wp2_with fail
          refine HCM.out.mono ?_
          rintro e w6 ⟨rfl, hb6⟩
          have HB6 : Hid (Below w.heap.size w w6) := HB5.out.trans (hb6.mono HB5.out.size)
          clear hb6
          go_wp2
          go_ret
          exact ⟨rfl, HB6.out⟩
end Go.Proofs.YtdgicclmjloigaaDoor
