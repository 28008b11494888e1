/- Contracts: an index's Names, Packs. -/
import Derived.Test.YtpfjcdfhlcnlcaaIdxF
import Derived.Test.YtpfjcdfhlcnlcaaShelf
import Derived.Laws.MakeOwn
import Derived.Deep.OwnRows
namespace Go.Proofs.Ytpfjcdfhlcnlcaa
open Go.RowKit Go.Maps Go.Sort Go.Shelf
set_option linter.unusedVariables false
set_option linter.unusedSimpArgs false

/-- slices.Sort's two contracts at this program. -/
theorem sortsA (m : Nat) : AnyZ.SortsIn Try.prog Try.sortedA_ren Fence.wide m :=
  ⟨fun blk off cap ss W hH hblk hsz => callsIn_wide.2 (Try.slices_Sort_string blk off cap ss W hH hblk hsz),
   fun p cap W => callsIn_wide.2 (Try.slices_Sort_string_none p cap W)⟩
theorem encStr_mkB (x : List UInt8) : encStr x = .string (mkB x) := rfl
theorem ownsRow_base {w : World} {base base' : Nat} {e : TypeId} {s n : Nat} {v : Value} {xs : List Value} (h : w.ownsRow base e s v n xs) (hb : base' ≤ base) : w.ownsRow base' e s v n xs :=
  ⟨h.1, by rcases h.2 with h0 | ⟨g, cap, cur, e, hB, r⟩; exact .inl h0; exact .inr ⟨g, cap, cur, e, Nat.le_trans hb hB, r⟩⟩
set_option maxRecDepth 100000 in
set_option maxHeartbeats 1000000 in
theorem names_any {x : Nat} {m1 m2 : Option Nat} {ps : List (List UInt8)} {F : As Pl} (w : World) (h : IXo w x m1 m2 ps F) (hl : F.length ≤ 1000000000) :
    Calls Try.prog 21 #[.pointer (some ⟨x, 0, none⟩)] w fun e w' => ∃ v, e = .returned v ∧ OT w' w.heap.size v (nmA F) ∧ Below w.heap.size w w' := by
  have hx := h.lt
  have c1 := h.c1
  refine (callsIn_wide (n := 6)).1 ?_
  obtain ⟨P, N, hseq, hNl, hP⟩ : ∃ (P : List (List UInt8) → Prop) (N : Nat), SeqGives Fence.wide 2 Try.prog 45 #[.pointer (some ⟨w.heap.size, 0, none⟩)] encStr P N (w.alloc (.cells #[.map m2] 25)) ∧ N = F.length ∧ ∀ ss, P ss → ss.Perm (F.map (·.1)) := by
    rcases h.g2 with ⟨rfl, rfl⟩ | ⟨b, rfl, hg⟩
    · refine ⟨fun ss => ss = [], 0, ?_, rfl, fun ss e => by rw [e]; exact List.Perm.refl _⟩
      exact AnyZ.keys_gives_nil (ρ := Try.keysA_ren) { Try.keysA with } Fence.wide _ trivial rfl w.heap.size _ (by simp) ((cell_of_row _ _ _ _ _ _ (heap_alloc_new w _)).trans rfl)
    · obtain ⟨D, hown, hkd, hhas, hat⟩ := hg
      have hp := keysG_perm hown hkd hhas
      have hsz : Maps.size D = F.length := by rw [size_keysG D hown.isMap, ← hp.length_eq, List.length_map]
      have hbl := hown.lt
      refine ⟨fun ss => ss.Perm (strKeys D), Maps.size D, ?_, hsz, fun ss hS => hS.trans hp.symm⟩
      exact AnyZ.keys_gives (ρ := Try.keysA_ren) { Try.keysA with } Fence.wide _ trivial rfl (by omega) w.heap.size b F.length D _ (by simp) (by simp) (by
        obtain ⟨es, clock, hb, Ft, hs, hD⟩ := hown
        exact ⟨es, clock, (Below.heap_alloc _ _ b hbl).trans hb, Ft, hs, hD⟩)
  have cK : ∀ mb W, CallsIn Fence.wide 5 Try.prog 35 #[.map mb] W fun e w' => e = .returned (.func (.func 45) #[] #[.pointer (some ⟨W.heap.size, 0, none⟩)]) ∧ w' = W.alloc (.cells #[.map mb] 25) := fun mb W => AnyZ.keys_in Try.keysA Fence.wide 5 trivial rfl mb W
  have cS := AnyZ.sorted_in Try.sortedA Fence.wide 5 trivial trivial trivial trivial rfl (by omega) (sortsA _) (enters_of Try.func44 (by kernel_rfl) rfl) 45 #[.pointer (some ⟨w.heap.size, 0, none⟩)] trivial (enters_of Try.func45 (by kernel_rfl) rfl) _ _ (by rw [hNl]; unfold maxLen; omega) (by rw [hNl]; omega) _ hseq
  change CallsIn _ _ Try.prog 34 _ _ _ at cS
  have hfK : Fence.wide.fn 35 := trivial
  have hfS : Fence.wide.fn 34 := trivial
  have HP : Hid (∀ ss, P ss → ss.Perm (F.map (·.1))) := hP
  clear hP hseq hNl
  refine callsIn_of_wp Try.func21 rfl trivial ?_ rfl
  simp only [Try.ntmps21, List.size_toArray, List.length_cons, List.length_nil, Nat.reduceAdd, Nat.reduceSub, Array.replicate_succ, Array.replicate_zero, List.push_toArray, List.append_toArray, List.nil_append, List.cons_append]
  gi_wp2_with (first
    | (gi_at_call 35; refine (cK _ _).mono ?_; rintro e w' ⟨rfl, rfl⟩)
    | (gi_at_call 34; refine cS.mono ?_; rintro e w' ⟨v, ss, rfl, hS, hrow, hnil, hb⟩))
  go_ret
  refine ⟨v, rfl, ?_, ((Below.refl _ w).alloc (Nat.le_refl _) _).trans (hb.mono (by simp))⟩
  have hpf : ss.Perm (F.map (·.1)) := HP.out ss hS
  have hlen : ss.length = (nmA F).length := by rw [hpf.length_eq, List.length_map, nmA_len]
  have e1 : ss.mergeSort (fun x y => decide (x ≤ y)) = nmA F := mergeSort_nmA hpf
  rw [e1, hlen] at hrow
  exact ownsRow_base hrow (by simp)
theorem OT.set {w : World} {B b cap : Nat} {l : List (List UInt8)} (h : OT w B (.slice (some ⟨b, 0, none⟩) l.length cap) l) (j : Nat) (y : List UInt8) : OT (w.setCell ⟨b, j, none⟩ (.string (mkB y))) B (.slice (some ⟨b, 0, none⟩) l.length cap) (l.set j y) := by
  have := (World.ownsRow.stored h j (.string (mkB y))).1
  unfold OT
  rw [tc_set, List.length_set]
  exact this
theorem packs_pure {ps : List (List UInt8)} (hn : ps.Nodup) {ss l : List (List UInt8)} (hl : l.length = ps.length) (hp : ss.Perm ps) (h : ∀ y ∈ ss, ∀ i : Nat, lkA (pkA ps) y = some (i : Int) → l[i]? = some y) : l = ps := by
  apply List.ext_getElem? fun i => ?_
  rcases Nat.lt_or_ge i ps.length with hi | hi
  · have h1 : ps[i]? = some ps[i] := List.getElem?_eq_getElem hi
    rw [h1]
    exact h ps[i] (hp.mem_iff.2 (List.getElem_mem hi)) i (pkA_get hn h1)
  · rw [List.getElem?_eq_none (by omega), List.getElem?_eq_none (by omega)]
theorem pkA_lt {ps : List (List UInt8)} {x : List UInt8} {i : Int} (h : lkA (pkA ps) x = some i) : ∃ k : Nat, i = (k : Int) ∧ k < ps.length ∧ ps[k]? = some x := by
  obtain ⟨k, e, hk⟩ := pkA_at h
  exact ⟨k, e, (List.getElem?_eq_some_iff.1 hk).1, hk⟩
set_option maxRecDepth 100000 in
set_option maxHeartbeats 2000000 in
theorem packs_any {x : Nat} {m1 m2 : Option Nat} {ps : List (List UInt8)} {F : As Pl} (w : World) (h : IXo w x m1 m2 ps F) (hn : ps.Nodup) (hl : ps.length ≤ 1000000) :
    Calls Try.prog 22 #[.pointer (some ⟨x, 0, none⟩)] w fun e w' => e = .returned (.slice (some ⟨w.heap.size, 0, none⟩) ps.length ps.length) ∧ OT w' w.heap.size (.slice (some ⟨w.heap.size, 0, none⟩) ps.length ps.length) ps ∧ Below w.heap.size w w' := by
  have hx := h.lt
  have c0 := h.c0
  obtain ⟨n, hnn⟩ : ∃ n, n = ps.length := ⟨_, rfl⟩
  have HNN : Hid (n = ps.length) := hnn
  obtain ⟨i0, hi, hz0, hz1, hz2⟩ := info_parts Try.infoTx
  obtain ⟨w1, hmk, hown, hgr⟩ := run_makeSlice_full (P := Try.prog) (w := w) w.heap.size 28 9 i0 (.string ⟨#[]⟩) 1 Try.underlying28 hi hz0 hz1 .i64 .i64 n (by omega) (by rw [hz2]; omega) (by unfold maxLen; omega) (Nat.le_refl _)
  have hcl : (madeCells (Value.string ⟨#[]⟩).cells (n * 1)).toList = tc (List.replicate n []) := by
    rw [Nat.mul_one]
    show (madeCells #[.string ⟨#[]⟩] n).toList = _
    rw [toList_madeCells_one]
    unfold tc
    rw [List.map_replicate]; rfl
  have hO : OT w1 w.heap.size (.slice (some ⟨w.heap.size, 0, none⟩) n n) (List.replicate n []) := by
    unfold OT; rw [List.length_replicate, ← hcl]; exact hown
  have hb1 : Below w.heap.size w w1 := (Below.refl _ w).grown hgr (Nat.le_refl _) (fun k hk => by cases hk)
  have h1 := h.below hb1
  have hln := h.g1.len Try.underlying24
  rw [pkA_len, ← hnn] at hln
  rw [← hnn] at hl ⊢
  have HO : Hid (OT w1 w.heap.size (.slice (some ⟨w.heap.size, 0, none⟩) n n) (List.replicate n [])) := hO
  have HB1 : Hid (Below w.heap.size w w1) := hb1
  have hxs : x < w1.heap.size := h1.lt
  have c01 := h1.c0
  have hws : w.heap.size < w1.heap.size := (World.ownsRow.lt hO _ rfl).2
  rcases h1.g1 with ⟨rfl, hps⟩ | ⟨b, rfl, hg⟩
  · have hps0 : ps = [] := by have := congrArg List.length hps; rw [pkA_len] at this; exact List.length_eq_zero_iff.1 this
    have HP0 : Hid (ps = []) := hps0
    obtain rfl : n = 0 := by rw [hnn, hps0]; rfl
    clear hO hown hgr hb1 h1 hcl h hps hps0 hnn
    have hrg := run_range_nilMap (P := Try.prog) w1 24 9 3 Try.underlying24
    have hnx : ∀ ty, (Instr.next (.pointer (some ⟨w1.heap.size, 0, none⟩)) false ty).run Try.prog (w1.alloc (.mapIter none 0 #[] 0)) = _ := fun ty => run_next_nilMap _ ty 0 0 #[]
    have hmk0 : (Instr.makeSlice 28 (.int .i64 0) (.int .i64 0)).run Try.prog w = .ok (.slice (some ⟨w.heap.size, 0, none⟩) 0 0) w1 := hmk
    have hln0 : ∀ ty, (Builtin.len_ #[24] ty #[.map none]).run Try.prog w = .ok (.int .i64 0) w := hln
    clear hmk hln
    go_enter Try.func22, Try.ntmps22
    go_wp2
    go_loopw [4] (fun _ wr => wr = w1.alloc (.mapIter none 0 #[] 0)) (fun _ _ => 0)
    case atStart => rfl
    case round =>
      subst hrel
      go_wp2
      go_ret
      rw [HP0.out]
      exact ⟨rfl, OT.below HO.out ((Below.refl _ _).alloc (Nat.le_refl _) _), HB1.out.alloc (by omega) _⟩
  · obtain ⟨D, hmo, hkd, hhas, hat⟩ := hg
    have HHAS : Hid (∀ y, Maps.has D (.string y) = (lkA (pkA ps) y).isSome) := hhas
    have HAT : Hid (∀ y, D.atKey (.string y) (EN.dv 0) = EN.dv ((lkA (pkA ps) y).getD 0)) := hat
    have HKD : Hid (KdA (pkA ps)) := hkd
    have HMO : Hid (w1.ownsMap Try.prog 9 EN.el b (pkA ps).length D) := hmo
    have HND : Hid ps.Nodup := hn
    clear hO hown hgr hb1 h1 hcl h hhas hat hkd hnn hn
    go_enter Try.func22, Try.ntmps22
    go_wp2_with (first
      | (at_range; refine wpList_range_own _ rfl _ 24 rfl 9 3 keyT Try.underlying24 EN.el b (pkA ps).length D rfl hmo ?_; intro w0 hrg0 hg0 hs0) | go_in)
    clear hmo
    go_frame
    go_loopw [4] (fun _ wr => ∃ (left : Lit → Bool) (cnt : Nat) (ss l : List (List UInt8)), wr.ranges Try.prog 9 EN.el b w1.heap.size (pkA ps).length D left cnt ∧ Collected D left ss ∧ l.length = n ∧ OT wr w.heap.size (.slice (some ⟨w.heap.size, 0, none⟩) n n) l ∧ (∀ y ∈ ss, ∀ i : Nat, lkA (pkA ps) y = some (i : Int) → l[i]? = some y) ∧ Below w.heap.size w wr) (fun _ wr => wr.rangeLeft b w1.heap.size)
    case atStart =>
      exact ⟨_, _, [], List.replicate n [], hrg0, Collected.start D, by simp, World.ownsRow.kept HO.out hg0 (.inr (by simp [Value.ownBlock])), fun y hy => (by cases hy), HB1.out.grown hg0 (by omega) (fun k hk => by cases hk)⟩
    case round =>
      obtain ⟨left, cnt, ss, l, hrg, hC, hll, hO, hin, hB⟩ := hrel
      have HB : Hid (Below w.heap.size w wr) := hB
      have HC : Hid (Collected D left ss) := hC
      have HO2 : Hid (OT wr w.heap.size (.slice (some ⟨w.heap.size, 0, none⟩) n n) l) := hO
      have HIN : Hid (∀ y ∈ ss, ∀ i : Nat, lkA (pkA ps) y = some (i : Int) → l[i]? = some y) := hin
      have HLL : Hid (l.length = n) := hll
      have HRG : Hid (wr.ranges Try.prog 9 EN.el b w1.heap.size (pkA ps).length D left cnt) := hrg
      clear hB hC hrg0 hg0 hs0 hO hin hll hrg
      go_wp2_with (first
        | (at_next; refine wpList_next_GM (E := EN) (z := 0) _ rfl _ rfl b w1.heap.size (pkA ps).length (pkA ps) D HAT.out HHAS.out left cnt rfl HRG.out ?_ ?_) | go_in)
      · intro hc0 hl0
        have HL0 : Hid (∀ kl, left kl = false) := hl0
        clear hl0 hc0
        go_wp2
        go_ret
        have hp := (HC.out.perm HMO.out keyT Try.underlying9 HL0.out).trans (keysG_perm HMO.out HKD.out HHAS.out).symm
        rw [pkA_keys] at hp
        have e := packs_pure HND.out (by rw [HLL.out]; exact HNN.out) hp HIN.out
        rw [← e]
        exact ⟨rfl, HO2.out, HB.out⟩
      · intro y g w2 cnt2 hlk hleft hatx hrg2 hlt hgr2 hsz2 hen
        obtain ⟨i, rfl, hil, hiy⟩ := pkA_lt hlk
        have hin' : i < n := by rw [HNN.out]; exact hil
        have HB2 : Hid (Below w.heap.size w w2) := HB.out.grown hgr2 HB.out.size (fun k hk => by cases hk; omega)
        have hO2 : OT w2 w.heap.size (.slice (some ⟨w.heap.size, 0, none⟩) n n) l := World.ownsRow.kept HO2.out hgr2 (.inr (by simp [Value.ownBlock]; omega))
        have hcell := hO2.cell i (by rw [HLL.out]; exact hin') HLL.out.symm
        have hfz : w2.frozen? ⟨w.heap.size, i, none⟩ = false := World.ownsRow.frozenAt (by have := hO2; unfold OT at this; rw [HLL.out] at this; exact this) i
        have HC2 : Hid (Collected D (fun z => left z && !z.sameKey (.string y)) (ss ++ [y])) := HC.out.step hleft hatx
        have HRG2 : Hid (w2.ranges Try.prog 9 EN.el b w1.heap.size (pkA ps).length D (fun z => left z && !z.sameKey (.string y)) cnt2) := hrg2
        have HM : Hid (w2.rangeLeft b w1.heap.size < wr.rangeLeft b w1.heap.size) := by unfold Hid; rw [hrg2.left_eq, HRG.out.left_eq]; exact hlt
        have HO3 : Hid (OT w2 w.heap.size (.slice (some ⟨w.heap.size, 0, none⟩) n n) l) := hO2
        have HLK : Hid (lkA (pkA ps) y = some (i : Int)) := hlk
        have HIY : Hid (ps[i]? = some y) := hiy
        have hbne : w.heap.size ≠ b := fun e => by
          have h1 := HMO.out.isMap
          obtain ⟨es, c, hm⟩ : ∃ es c, w1.heap[b]? = some (.map es c) := by obtain ⟨es, clock, h1, _⟩ := HMO.out; exact ⟨es, clock, h1⟩
          obtain ⟨_, h2⟩ := HO.out
          rcases h2 with ⟨h2, _⟩ | ⟨g', cap', cur', h2, _, h3, _⟩
          · cases h2
          · injection h2 with h2 _ _; injection h2 with h2; injection h2 with h2 _ _
            rw [← h2, e, hm] at h3; cases h3
        have hgs : w2.grownBy (w2.setCell ⟨w.heap.size, i, none⟩ (.string (mkB y))) (some w.heap.size) := ⟨rfl, rfl, rfl, by simp [World.setCell], fun k _ hk => Below.heap_setCell _ _ _ _ (fun e => hk (congrArg some e))⟩
        have HR3 : Hid ((w2.setCell ⟨w.heap.size, i, none⟩ (.string (mkB y))).ranges Try.prog 9 EN.el b w1.heap.size (pkA ps).length D (fun z => left z && !z.sameKey (.string y)) cnt2) := HRG2.out.kept hgs (fun e => hbne (Option.some.inj e).symm) (fun e => by have := Option.some.inj e; omega)
        have HLF : Hid (left (.string y) = true) := hleft
        clear hbne hgs
        rw [EN_ev] at hen
        rw [EN_ev]
        clear hrg2 hgr2 hsz2 hatx hleft hlt hO2 hlk hiy hil
        generalize l.getD i [] = l0 at hcell
        have hii : (i : Int) < (n : Int) := by omega
        go_wp2
        go_roundw
        case rel =>
          refine ⟨_, cnt2, ss ++ [y], l.set i y, HR3.out, HC2.out, by rw [List.length_set]; exact HLL.out, ?_, ?_, HB2.out.setCell (p := ⟨w.heap.size, i, none⟩) (Nat.le_refl _) _⟩
          · have := OT.set (cap := n) (by rw [HLL.out]; exact HO3.out) i y
            rw [HLL.out] at this; exact this
          · intro z hz k hk
            rcases List.mem_append.1 hz with hz | hz
            · have hne : k ≠ i := fun e => by
                subst e
                have h1 := pkA_lt hk
                obtain ⟨k', e1, _, h2⟩ := h1
                obtain rfl : k = k' := by omega
                rw [HIY.out] at h2
                have : y ∈ ss := by rw [Option.some.inj h2]; exact hz
                have h3 := ((HC.out.2 y).1 this).2
                rw [HLF.out] at h3; cases h3
              rw [List.getElem?_set_ne hne.symm]
              exact HIN.out z hz k hk
            · rw [List.mem_singleton] at hz; subst hz
              have : (i : Int) = (k : Int) := Option.some.inj (HLK.out.symm.trans hk)
              obtain rfl : i = k := by omega
              rw [List.getElem?_set_self (by rw [HLL.out]; exact hin')]
        case measure =>
          rw [HR3.out.left_eq, ← HRG2.out.left_eq]; exact HM.out
end Go.Proofs.Ytpfjcdfhlcnlcaa
