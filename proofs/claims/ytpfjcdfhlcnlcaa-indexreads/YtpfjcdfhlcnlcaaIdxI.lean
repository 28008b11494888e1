/- The law's Same of one list; the law's is, where it holds. -/
import Derived.Test.YtpfjcdfhlcnlcaaIdx2
import Derived.Test.YtpfjcdfhlcnlcaaIdxX
import Derived.Laws.StructEq
import Derived.BigQuiet
import Derived.Deep.QuietTactic
import Derived.Deep.RegionHeld3
namespace Go.Proofs.Ytpfjcdfhlcnlcaa
open Go.RowKit Go.Maps
set_option linter.unusedVariables false
set_option linter.unusedSimpArgs false

/-- v is a slice of these texts, wherever it lies. -/
def TS (w : World) (v : Value) (l : List (List UInt8)) : Prop := ∃ a cap, v = .slice a l.length cap ∧ l.length ≤ cap ∧ (l ≠ [] → ∃ g o, a = some ⟨g, o, none⟩ ∧ g < w.heap.size ∧ ∀ i, i < l.length → w.cell? ⟨g, o + i, none⟩ = some (.string (mkB (l.getD i []))))
theorem TS.below {w w' : World} {v : Value} {l : List (List UInt8)} (h : TS w v l) (hb : Below w.heap.size w w') : TS w' v l := by
  obtain ⟨a, cap, rfl, hc, hf⟩ := h
  refine ⟨a, cap, rfl, hc, fun hne => ?_⟩
  obtain ⟨g, o, rfl, hg, hh⟩ := hf hne
  exact ⟨g, o, rfl, Nat.lt_of_lt_of_le hg hb.size, fun i hi => by rw [hb.cell (p := ⟨g, o + i, none⟩) hg]; exact hh i hi⟩
theorem OT.ts {w : World} {B : Nat} {v : Value} {l : List (List UInt8)} (h : OT w B v l) : TS w v l := by
  rcases h.2 with ⟨rfl, h0⟩ | ⟨g, cap, cur, rfl, hB, hh, hc, _⟩
  · have : l = [] := List.length_eq_zero_iff.1 h0
    subst this
    exact ⟨none, 0, rfl, Nat.le_refl _, fun hne => absurd rfl hne⟩
  · refine ⟨some ⟨g, 0, none⟩, cap, rfl, hc, fun _ => ⟨g, 0, rfl, (World.ownsRow.lt h g rfl).2, fun i hi => ?_⟩⟩
    rw [Nat.zero_add]
    exact h.cell i hi rfl
set_option maxRecDepth 100000 in
set_option maxHeartbeats 1000000 in
theorem same_eq (v u : Value) (l : List (List UInt8)) (w : World) (hv : TS w v l) (hu : TS w u l) (hl : l.length ≤ 10000000) :
    Calls Try.prog 20 #[v, u] w fun e w' => e = .returned (.int .i64 0) ∧ ∃ n, w' = w.drewN n := by
  obtain ⟨a, ca, rfl, -, hA⟩ := hv
  obtain ⟨b, cb, rfl, -, hB⟩ := hu
  have HA : Hid _ := hA
  have HB : Hid _ := hB
  clear hA hB
  obtain ⟨q, HQ⟩ : ∃ q, Hid (l.length = q) := ⟨_, rfl⟩
  rw [HQ.out] at hl
  rw [show l.length = q from HQ.out]
  have hne : ((q : Int) != (q : Int)) = false := by simp
  go_enter Try.func20, Try.ntmps20
  go_wp2
  go_loopw [13] (fun i wr => ∃ k n : Nat, k ≤ q ∧ i = .int .i64 (k : Int) ∧ wr = w.drewN n) (fun i _ => q - (intOf i).toNat)
  case atStart => exact ⟨0, 0, by omega, rfl, rfl⟩
  case round =>
    obtain ⟨k, n, hk, rfl, rfl⟩ := hrel
    by_cases hlt : k < q
    · have hki : (k : Int) < (q : Int) := by omega
      obtain ⟨ga, oa, rfl, hga, hca⟩ := HA.out (fun e => by have := HQ.out; rw [e] at this; simp at this; omega)
      obtain ⟨gb, ob, rfl, hgb, hcb⟩ := HB.out (fun e => by have := HQ.out; rw [e] at this; simp at this; omega)
      have c1 : w.cell? ⟨ga, oa + k, none⟩ = _ := hca k (by rw [HQ.out]; exact hlt)
      have c2 : w.cell? ⟨gb, ob + k, none⟩ = _ := hcb k (by rw [HQ.out]; exact hlt)
      have hbq := mkB_beq (l.getD k []) (l.getD k [])
      clear hca hcb
      rw [decide_eq_true rfl] at hbq
      generalize mkB (l.getD k []) = X at *
      go_wp2
      go_quiet (fail)
      go_wp2
      go_roundw
      case rel => exact ⟨k + 1, n + nq, by omega, by go_num, by first | rfl | exact World.drewN_drewN ..⟩
      case measure => simp [intOf]; omega
    · have hki : ¬ (k : Int) < (q : Int) := by omega
      go_wp2
      go_ret
      exact ⟨rfl, n, rfl⟩
/-- Places as cells. -/
def plC (p : Pl) : List Value := [.string (mkB p.k), .string (mkB p.h.n), .int .i64 p.h.m, .int .u32 p.h.c, .int .i64 p.h.p, .int .i64 p.h.s, .int .i64 p.h.a]
def plsC (l : List Pl) : List Value := l.flatMap plC
theorem plsC_len : ∀ l : List Pl, (plsC l).length = l.length * 7
  | [] => rfl
  | x :: l => by
    have := plsC_len l
    simp only [plsC, List.flatMap_cons, List.length_append, List.length_cons] at this ⊢
    rw [this]; simp [plC]; omega
theorem plsC_at : ∀ (l : List Pl) (i : Nat) (x : Pl), l[i]? = some x → ∀ j, j < 7 → (plsC l)[i * 7 + j]? = (plC x)[j]?
  | [], i, x, h, j, hj => by simp at h
  | y :: l, 0, x, h, j, hj => by
    simp at h; subst h
    simp only [plsC, List.flatMap_cons]
    rw [List.getElem?_append_left (by simp [plC]; omega)]
    simp
  | y :: l, i + 1, x, h, j, hj => by
    simp at h
    have := plsC_at l i x h j hj
    simp only [plsC, List.flatMap_cons] at this ⊢
    rw [List.getElem?_append_right (by simp [plC]; omega)]
    rw [← this]
    congr 1
    simp [plC]; omega
/-- A slice that shows places. -/
def PV (w : World) (v : Value) (l : List Pl) : Prop :=
  ∃ a cap, v = .slice a l.length cap ∧ l.length ≤ cap ∧ (l ≠ [] → ∃ g o, a = some ⟨g, o, none⟩ ∧ g < w.heap.size ∧ ∀ j u, (plsC l)[j]? = some u → w.cell? ⟨g, o + j, none⟩ = some u)
theorem PV.below {w w' : World} {v : Value} {l : List Pl} (h : PV w v l) (hb : Below w.heap.size w w') : PV w' v l := by
  obtain ⟨a, cap, rfl, hc, hf⟩ := h
  refine ⟨a, cap, rfl, hc, fun hne => ?_⟩
  obtain ⟨g, o, rfl, hg, hh⟩ := hf hne
  exact ⟨g, o, rfl, Nat.lt_of_lt_of_le hg hb.size, fun j u hu => by rw [hb.cell (p := ⟨g, o + j, none⟩) hg]; exact hh j u hu⟩
theorem PV.at {w : World} {a : Option Addr} {n cap : Nat} {l : List Pl} (h : PV w (.slice a n cap) l) {i : Nat} {x : Pl} (hi : l[i]? = some x) :
    ∃ g o, a = some ⟨g, o, none⟩ ∧ g < w.heap.size ∧ n = l.length ∧ n ≤ cap ∧ w.cell? ⟨g, o + i * 7, none⟩ = some (.string (mkB x.k)) ∧ w.cell? ⟨g, o + i * 7 + 1, none⟩ = some (.string (mkB x.h.n)) ∧ w.cell? ⟨g, o + i * 7 + 2, none⟩ = some (.int .i64 x.h.m) ∧ w.cell? ⟨g, o + i * 7 + 3, none⟩ = some (.int .u32 x.h.c) ∧ w.cell? ⟨g, o + i * 7 + 4, none⟩ = some (.int .i64 x.h.p) ∧ w.cell? ⟨g, o + i * 7 + 5, none⟩ = some (.int .i64 x.h.s) ∧ w.cell? ⟨g, o + i * 7 + 6, none⟩ = some (.int .i64 x.h.a) := by
  obtain ⟨a', cap', e, hc, hf⟩ := h
  injection e with e1 e2 e3
  subst e1 e3
  obtain ⟨g, o, rfl, hg, hh⟩ := hf (fun q => by rw [q] at hi; simp at hi)
  have key : ∀ j u, j < 7 → (plC x)[j]? = some u → w.cell? ⟨g, o + i * 7 + j, none⟩ = some u := fun j u hj hu => by
    rw [Nat.add_assoc]; exact hh _ _ (by rw [plsC_at l i x hi j hj]; exact hu)
  exact ⟨g, o, rfl, hg, e2, by omega, key 0 _ (by omega) rfl, key 1 _ (by omega) rfl, key 2 _ (by omega) rfl, key 3 _ (by omega) rfl, key 4 _ (by omega) rfl, key 5 _ (by omega) rfl, key 6 _ (by omega) rfl⟩
theorem Try.stoodH8 : Try.prog.stoodInHeld 39 = false := by kernel_rfl
theorem Try.undH8 : Try.prog.underlying 39 = some (.struct (Try.prog.fieldsOf 39)) := by kernel_rfl
theorem Try.guardH8 : Try.prog.eqGuardType Try.prog.depth 39 = false := by kernel_rfl
theorem eqFields_same (d : Nat) (xs : Array Value) (w : World) : ∀ fs : List Field, (∀ f ∈ fs, ∃ v, (part f.type xs f.offset).run Try.prog w = .ok v w ∧ (Op.equalIn d f.type v v).run Try.prog w = .ok true w) → (Op.eqFields d xs xs fs).run Try.prog w = .ok true w
  | [], _ => by simp [Op.eqFields]
  | f :: fs, h => by
    obtain ⟨v, h1, h2⟩ := h f (by simp)
    have ih := eqFields_same d xs w fs (fun g hg => h g (List.mem_cons_of_mem _ hg))
    simp only [Op.eqFields, Sem.run_ite, Sem.run_bind, h1, h2, Result.andThen_ok, Bool.not_true, Bool.false_eq_true, if_false, ih]
    split <;> rfl
theorem neq_h8 (n : ByteArray) (m c p s a : Int) (w : World) : (binOp .neq 39 (.agg #[.string n, .int .i64 m, .int .u32 c, .int .i64 p, .int .i64 s, .int .i64 a]) (.agg #[.string n, .int .i64 m, .int .u32 c, .int .i64 p, .int .i64 s, .int .i64 a])).run Try.prog w = .ok (.bool false) w := by
  rw [run_neq_struct, run_equalIn_agg _ _ _ _ _ Try.undH8 Try.stoodH8]
  have hf : (Try.prog.fieldsOf 39).toList.map (fun f => (f.type, f.offset)) = [(9, 0), (3, 1), (36, 2), (3, 3), (3, 4), (3, 5)] := by kernel_rfl
  rw [eqFields_same]
  · rfl
  · intro f hm
    have hm2 : (f.type, f.offset) ∈ [(9, 0), (3, 1), (36, 2), (3, 3), (3, 4), (3, 5)] := by rw [← hf]; exact List.mem_map.2 ⟨f, hm, rfl⟩
    generalize f.type = T at hm2 ⊢
    generalize f.offset = O at hm2 ⊢
    simp only [List.mem_cons, Prod.mk.injEq, List.not_mem_nil, or_false] at hm2
    rcases hm2 with ⟨rfl, rfl⟩ | ⟨rfl, rfl⟩ | ⟨rfl, rfl⟩ | ⟨rfl, rfl⟩ | ⟨rfl, rfl⟩ | ⟨rfl, rfl⟩
    · exact ⟨.string n, by kernel_rfl, by rw [run_equalIn_string _ _ _ _ _ Try.underlying9]; simp⟩
    · exact ⟨.int .i64 m, by kernel_rfl, by rw [run_equalIn_int _ _ _ _ _ _ _ Try.underlying3]; simp⟩
    · exact ⟨.int .u32 c, by kernel_rfl, by rw [run_equalIn_int _ _ _ _ _ _ _ Try.underlying36]; simp⟩
    · exact ⟨.int .i64 p, by kernel_rfl, by rw [run_equalIn_int _ _ _ _ _ _ _ Try.underlying3]; simp⟩
    · exact ⟨.int .i64 s, by kernel_rfl, by rw [run_equalIn_int _ _ _ _ _ _ _ Try.underlying3]; simp⟩
    · exact ⟨.int .i64 a, by kernel_rfl, by rw [run_equalIn_int _ _ _ _ _ _ _ Try.underlying3]; simp⟩
theorem zeroRP (w : World) : (zeroValue 47).run Try.prog w = .ok (.agg #[.string ⟨#[]⟩, .string ⟨#[]⟩, .int .i64 0, .int .u32 0, .int .i64 0, .int .i64 0, .int .i64 0]) w := by kernel_rfl
theorem zeroRI (w : World) : (zeroValue 31).run Try.prog w = .ok (.agg #[.slice none 0 0, .slice none 0 0]) w := by kernel_rfl
/-- The places of an index, by rising names. -/
def plsI (F : As Pl) : List Pl := (nmA F).map (fun q => (lkA F q).getD plZ)
theorem plsI_at {F : As Pl} {i : Nat} {q : List UInt8} (h : (nmA F)[i]? = some q) : ∃ p, lkA F q = some p ∧ (plsI F)[i]? = some p := by
  obtain ⟨p, hp⟩ := Option.isSome_iff_exists.1 (nmA_mem.1 (List.mem_of_getElem? h))
  refine ⟨p, hp, ?_⟩
  unfold plsI
  rw [List.getElem?_map, h]
  simp [hp]
theorem plsI_len (F : As Pl) : (plsI F).length = F.length := by unfold plsI; rw [List.length_map, nmA_len]
set_option maxRecDepth 100000 in
set_option maxHeartbeats 4000000 in
theorem is_any {x : Nat} {m1 m2 : Option Nat} {ps : List (List UInt8)} {F : As Pl} (vp vq : Value) (w : World) (h : IXo w x m1 m2 ps F) (hP : TS w vp ps) (hQ : PV w vq (plsI F)) (hnd : ps.Nodup) (hk : ∀ q p, lkA F q = some p → p.h.n = q ∧ q.length ≤ 140737488351232) (hl : ps.length ≤ 1000000) (hF : F.length ≤ 100000) :
    Calls Try.prog 11 #[.pointer (some ⟨x, 0, none⟩), .agg #[vp, vq]] w fun e w' => e = .returned (.bool true) ∧ Below w.heap.size w w' := by
  have HX : Hid (IXo w x m1 m2 ps F) := h
  have HP : Hid (TS w vp ps) := hP
  have HQ : Hid (PV w vq (plsI F)) := hQ
  have HK : Hid (∀ q p, lkA F q = some p → p.h.n = q ∧ q.length ≤ 140737488351232) := hk
  have HND : Hid ps.Nodup := hnd
  have hzp := zeroPl
  have hzr := zeroRP
  obtain ⟨pa, pc, rfl, -, -⟩ := hP
  obtain ⟨qa, qc, rfl, -, -⟩ := hQ
  rw [plsI_len] at HQ ⊢
  obtain ⟨n, hn⟩ : ∃ n, n = F.length := ⟨_, rfl⟩
  have HN : Hid (n = F.length) := hn
  rw [← hn] at HQ hF ⊢
  obtain ⟨np, hnp⟩ : ∃ np, np = ps.length := ⟨_, rfl⟩
  have HNP : Hid (np = ps.length) := hnp
  rw [← hnp] at HP hl ⊢
  clear h hk hnd hn hnp
  obtain ⟨W1, hW1⟩ : ∃ W1, W1 = (w.alloc (.cells #[.slice pa np pc, .slice qa n qc] 31)).alloc (.cells #[] 9) := ⟨_, rfl⟩
  have hb1 : Below w.heap.size w W1 := by rw [hW1]; exact ((Below.refl _ w).alloc (Nat.le_refl _) _).alloc (by simp) _
  have hN1 : W1.heap[w.heap.size]? = some (.cells #[.slice pa np pc, .slice qa n qc] 31 (0, 0)) := by rw [hW1]; exact (Below.heap_alloc _ _ _ (by simp)).trans (heap_alloc_new _ _)
  have HN1 : Hid (W1.heap[w.heap.size]? = some (.cells #[.slice pa np pc, .slice qa n qc] 31 (0, 0))) := hN1
  have HB1 : Hid (Below w.heap.size w W1) := hb1
  have HO1 : Hid (OT W1 (w.heap.size + 1) (.slice (some ⟨w.heap.size + 1, 0, none⟩) 0 0) []) := by
    refine ⟨rfl, .inr ⟨w.heap.size + 1, 0, #[], rfl, Nat.le_refl _, ?_, Nat.le_refl _, by decide, rfl, rfl⟩⟩
    rw [hW1]; have h9 := heap_alloc_new (w.alloc (.cells #[.slice pa np pc, .slice qa n qc] 31)) (.cells #[] 9); rw [World.size_alloc] at h9; exact h9
  have c0 : W1.cell? ⟨w.heap.size, 1, none⟩ = some (.slice qa n qc) := (cell_of_row _ _ _ _ _ _ hN1).trans rfl
  have hs1 : w.heap.size + 2 ≤ W1.heap.size := by rw [hW1]; simp
  clear hb1 hN1
  go_enter Try.func11, Try.ntmps11
  go_upto_region 2 with fail
  rw [← hW1]
  clear hW1
  go_wp2
  go_loopw [5, 14] (fun v i wr => ∃ (k : Nat) (ua : Option Addr) (uc : Nat), k ≤ n ∧ i = .int .i64 (k : Int) ∧ v = .slice ua k uc ∧ OT wr (w.heap.size + 1) (.slice ua k uc) ((nmA F).take k) ∧ Below (w.heap.size + 1) W1 wr) (fun _ i _ => n - (intOf i).toNat)
  case atStart => exact ⟨0, _, _, Nat.zero_le _, rfl, rfl, HO1.out, Below.refl _ _⟩
  case round =>
    obtain ⟨k, ua, uc, hk, rfl, rfl, hO, hb⟩ := hrel
    have HO : Hid (OT wr (w.heap.size + 1) (.slice ua k uc) ((nmA F).take k)) := hO
    have HB : Hid (Below (w.heap.size + 1) W1 wr) := hb
    have HBw : Hid (Below w.heap.size w wr) := HB1.out.trans (hb.mono (by omega))
    have hwz : w.heap.size + 2 ≤ wr.heap.size := by have := hb.size; omega
    clear hO hb HO1 c0
    have hlk : ((nmA F).take k).length = k := by rw [List.length_take, nmA_len]; have := HN.out; omega
    have HLK : Hid (((nmA F).take k).length = k) := hlk
    by_cases hlt : k < n
    · have hlti : (k : Int) < (n : Int) := by omega
      obtain ⟨q, hq⟩ : ∃ q, (nmA F)[k]? = some q := ⟨_, List.getElem?_eq_getElem (by rw [nmA_len, ← HN.out]; exact hlt)⟩
      obtain ⟨p, hp, hpp⟩ := plsI_at hq
      obtain ⟨hpn, hql⟩ := HK.out q p hp
      obtain ⟨g, o, rfl, hg, -, hcap, e0, e1, e2, e3, e4, e5, e6⟩ := (HQ.out.below HBw.out).at hpp
      have HTK : Hid ((nmA F).take (k + 1) = (nmA F).take k ++ [q]) := by unfold Hid; rw [List.take_add_one, hq]; rfl
      rw [hpn] at e1
      have HXr : Hid (IXo wr x m1 m2 ps F) := HX.out.below HBw.out
      obtain ⟨pk, ⟨pn, pm, pcc, pz, pss, paa⟩⟩ := p
      dsimp only at hpn e0 e2 e3 e4 e5 e6
      subst hpn
      obtain ⟨W2, hW2⟩ : ∃ W2, W2 = wr.alloc (.cells #[.string (mkB pk), .string (mkB pn), .int .i64 pm, .int .u32 pcc, .int .i64 pz, .int .i64 pss, .int .i64 paa] 47) := ⟨_, rfl⟩
      have hb2 : Below wr.heap.size wr W2 := by rw [hW2]; exact (Below.refl _ wr).alloc (Nat.le_refl _) _
      have hN2 : W2.heap[wr.heap.size]? = some (.cells #[.string (mkB pk), .string (mkB pn), .int .i64 pm, .int .u32 pcc, .int .i64 pz, .int .i64 pss, .int .i64 paa] 47 (0, 0)) := by rw [hW2]; exact heap_alloc_new _ _
      have HN2 : Hid (W2.heap[wr.heap.size]? = some (.cells #[.string (mkB pk), .string (mkB pn), .int .i64 pm, .int .u32 pcc, .int .i64 pz, .int .i64 pss, .int .i64 paa] 47 (0, 0))) := hN2
      have d1 : W2.cell? ⟨wr.heap.size, 1, none⟩ = some (.string (mkB pn)) := (cell_of_row _ _ _ _ _ _ hN2).trans rfl
      have HB2 : Hid (Below (w.heap.size + 1) W1 W2) := HB.out.trans (hb2.mono (by omega))
      have HO2 : Hid (OT W2 (w.heap.size + 1) (.slice ua k uc) ((nmA F).take k)) := HO.out.below hb2
      have hs2 : W2.heap.size = wr.heap.size + 1 := by rw [hW2]; simp
      have HPR : Hid (lkA F pn = some ⟨pk, ⟨pn, pm, pcc, pz, pss, paa⟩⟩) := hp
      clear hb2 hN2 hp hpp hq
      go_upto_region 5 with fail
      rw [← hW2]
      clear hW2 e0 e1 e2 e3 e4 e5 e6
      have hO3 : OT W2 (w.heap.size + 1) (.slice ua ((nmA F).take k).length uc) ((nmA F).take k) := by rw [hlk]; exact HO2.out
      go_wp2_with (at_builtin; refine append_ot rfl _ _ rfl (w.heap.size + 1) (.slice ua ((nmA F).take k).length uc) ((nmA F).take k) pn (by rw [HLK.out]; rfl) (by rw [hs2]; rfl) hO3 (by rw [HLK.out]; omega) (by omega) ?_; intro a' c' w4 hO4 hg4 hat4; rw [HLK.out] at hO4 hat4 ⊢; have HO4 : Hid (OT w4 (w.heap.size + 1) (.slice a' (k + 1) c') ((nmA F).take (k + 1))) := (by unfold Hid; rw [HTK.out]; exact hO4); have hr4 : some wr.heap.size ≠ (Value.slice ua ((nmA F).take k).length uc).ownBlock := (fun e => by have h9 := (World.ownsRow.lt (HLK.out ▸ HO.out : OT wr (w.heap.size + 1) (.slice ua k uc) ((nmA F).take k)) wr.heap.size (by rw [HLK.out] at e; exact e.symm)).2; omega); have HN4 : Hid (w4.heap[wr.heap.size]? = some (.cells #[.string (mkB pk), .string (mkB pn), .int .i64 pm, .int .u32 pcc, .int .i64 pz, .int .i64 pss, .int .i64 paa] 47 (0, 0))) := (hg4.block _ (Array.getElem?_eq_some_iff.1 HN2.out).1 hr4).trans HN2.out; have d41 : w4.cell? ⟨wr.heap.size, 1, none⟩ = some (.string (mkB pn)) := (cell_of_row _ _ _ _ _ _ HN4.out).trans rfl; have HB4 : Hid (Below (w.heap.size + 1) W1 w4) := HB2.out.grown hg4 (by omega) (fun r hr => (World.ownsRow.lt hO3 r hr).1); clear hO4 hg4 hat4 hr4)
      have HX4 : Hid (IXo w4 x m1 m2 ps F) := HX.out.below (HB1.out.trans (HB4.out.mono (by omega)))
      have HFD : Hid (Calls Try.prog 8 #[.pointer (some ⟨x, 0, none⟩), .string (mkB pn)] w4 fun e w' => e = .returned (.tuple #[.agg #[.string (mkB pk), .string (mkB pn), .int .i64 pm, .int .u32 pcc, .int .i64 pz, .int .i64 pss, .int .i64 paa], .bool true]) ∧ Below w4.heap.size w4 w') := by
        have h9 := find_any pn w4 HX4.out (by omega)
        rw [HPR.out] at h9
        exact h9
      refine HFD.out.mono ?_
      rintro e w5 ⟨rfl, hb5⟩
      have hw4 : wr.heap.size < w4.heap.size := (Array.getElem?_eq_some_iff.1 HN4.out).1
      obtain ⟨W6, hW6⟩ : ∃ W6, W6 = w5.alloc (.cells #[.string (mkB pk), .string (mkB pn), .int .i64 pm, .int .u32 pcc, .int .i64 pz, .int .i64 pss, .int .i64 paa] 43) := ⟨_, rfl⟩
      have hb6 : Below w4.heap.size w4 W6 := by rw [hW6]; exact hb5.alloc hb5.size _
      have hN6 : W6.heap[w5.heap.size]? = some (.cells #[.string (mkB pk), .string (mkB pn), .int .i64 pm, .int .u32 pcc, .int .i64 pz, .int .i64 pss, .int .i64 paa] 43 (0, 0)) := by rw [hW6]; exact heap_alloc_new _ _
      have hM6 : W6.heap[wr.heap.size]? = some (.cells #[.string (mkB pk), .string (mkB pn), .int .i64 pm, .int .u32 pcc, .int .i64 pz, .int .i64 pss, .int .i64 paa] 47 (0, 0)) := (hb6.block _ hw4).trans HN4.out
      have r0 : W6.cell? ⟨w5.heap.size, 0, none⟩ = some (.string (mkB pk)) := (cell_of_row _ _ _ _ _ _ hN6).trans rfl
      have r1 : W6.cell? ⟨w5.heap.size, 1, none⟩ = some (.string (mkB pn)) := (cell_of_row _ _ _ _ _ _ hN6).trans rfl
      have r2 : W6.cell? ⟨w5.heap.size, 2, none⟩ = some (.int .i64 pm) := (cell_of_row _ _ _ _ _ _ hN6).trans rfl
      have r3 : W6.cell? ⟨w5.heap.size, 3, none⟩ = some (.int .u32 pcc) := (cell_of_row _ _ _ _ _ _ hN6).trans rfl
      have r4 : W6.cell? ⟨w5.heap.size, 4, none⟩ = some (.int .i64 pz) := (cell_of_row _ _ _ _ _ _ hN6).trans rfl
      have r5 : W6.cell? ⟨w5.heap.size, 5, none⟩ = some (.int .i64 pss) := (cell_of_row _ _ _ _ _ _ hN6).trans rfl
      have r6 : W6.cell? ⟨w5.heap.size, 6, none⟩ = some (.int .i64 paa) := (cell_of_row _ _ _ _ _ _ hN6).trans rfl
      have t0 : W6.cell? ⟨wr.heap.size, 0, none⟩ = some (.string (mkB pk)) := (cell_of_row _ _ _ _ _ _ hM6).trans rfl
      have t1 : W6.cell? ⟨wr.heap.size, 1, none⟩ = some (.string (mkB pn)) := (cell_of_row _ _ _ _ _ _ hM6).trans rfl
      have t2 : W6.cell? ⟨wr.heap.size, 2, none⟩ = some (.int .i64 pm) := (cell_of_row _ _ _ _ _ _ hM6).trans rfl
      have t3 : W6.cell? ⟨wr.heap.size, 3, none⟩ = some (.int .u32 pcc) := (cell_of_row _ _ _ _ _ _ hM6).trans rfl
      have t4 : W6.cell? ⟨wr.heap.size, 4, none⟩ = some (.int .i64 pz) := (cell_of_row _ _ _ _ _ _ hM6).trans rfl
      have t5 : W6.cell? ⟨wr.heap.size, 5, none⟩ = some (.int .i64 pss) := (cell_of_row _ _ _ _ _ _ hM6).trans rfl
      have t6 : W6.cell? ⟨wr.heap.size, 6, none⟩ = some (.int .i64 paa) := (cell_of_row _ _ _ _ _ _ hM6).trans rfl
      have HB6 : Hid (Below (w.heap.size + 1) W1 W6) := HB4.out.trans (hb6.mono (by omega))
      have HO6 : Hid (OT W6 (w.heap.size + 1) (.slice a' (k + 1) c') ((nmA F).take (k + 1))) := HO4.out.below hb6
      have hgd := Try.guardH8
      have hnq := neq_h8
      clear hb5 hb6 hN6 hM6 HFD HX4 HN4 HB4 HO4 d41 hO3
      go_upto_region 7 with fail
      rw [← hW6]
      clear hW6
      go_wp2
      go_roundw
      case rel => exact ⟨k + 1, a', c', by omega, by go_num, rfl, HO6.out, HB6.out⟩
      case measure => simp [intOf]; omega
    · have hlti : ¬ (k : Int) < (n : Int) := by omega
      obtain rfl : k = n := by omega
      have HOn : Hid (TS wr (.slice ua k uc) (nmA F)) := by
        have h9 := HO.out.ts
        rw [List.take_of_length_le (by rw [nmA_len, ← HN.out]; exact Nat.le_refl _)] at h9
        exact h9
      have HXr : Hid (IXo wr x m1 m2 ps F) := HX.out.below HBw.out
      have HPr : Hid (TS wr (.slice pa np pc) ps) := HP.out.below HBw.out
      have hcell : wr.cell? ⟨w.heap.size, 0, none⟩ = some (.slice pa np pc) := by
        have h9 := HB.out.block w.heap.size (by omega)
        exact (cell_of_row _ _ _ _ _ _ (h9.trans HN1.out)).trans rfl
      have HLN : Hid ((nmA F).length = k) := by unfold Hid; rw [nmA_len, HN.out]
      clear HO HB HN1
      have HXB : Hid (∀ a, Below wr.heap.size wr a → IXo a x m1 m2 ps F) := fun a ha => HXr.out.below ha
      have HTN : Hid (∀ a, Below wr.heap.size wr a → TS a (.slice ua k uc) (nmA F)) := fun a ha => HOn.out.below ha
      have HTP : Hid (∀ a, Below wr.heap.size wr a → TS a (.slice pa np pc) ps) := fun a ha => HPr.out.below ha
      have HBT : Hid (∀ a b, Below wr.heap.size wr a → Below a.heap.size a b → Below wr.heap.size wr b) := fun a b ha hb => ha.trans (hb.mono ha.size)
      have HBD : Hid (∀ a n, Below wr.heap.size wr a → Below wr.heap.size wr (World.drewN a n)) := fun a n ha => ⟨ha.os, ha.tape, ha.output, ha.size, ha.block⟩
      have HSB : Hid (∀ a, Below wr.heap.size wr a → a.cell? ⟨w.heap.size, 0, none⟩ = some (.slice pa np pc)) := fun a ha => (ha.cell (p := ⟨w.heap.size, 0, none⟩) (by show w.heap.size < _; omega)).trans hcell
      have hch0 : Below wr.heap.size wr wr.drew := (Below.refl _ _).drew
      have hS0 := HSB.out _ hch0
      have HL1 : Hid (F.length ≤ 1000000000) := by unfold Hid; rw [← HN.out]; omega
      have HL2 : Hid ((nmA F).length ≤ 10000000) := by unfold Hid; rw [HLN.out]; omega
      have HL3 : Hid (ps.length ≤ 1000000) := by unfold Hid; rw [← HNP.out]; exact hl
      have HL4 : Hid (ps.length ≤ 10000000) := by have := HL3.out; unfold Hid; omega
      go_upto_region 10 with fail
      go_region_held3 (fun w' : World => w'.cell? ⟨w.heap.size, 0, none⟩ = some (.slice pa np pc))
        (first | exact hS0 | exact HSB.out _ hch7 | exact HSB.out _ hch6 | exact HSB.out _ hch4)
        ((first | (go_at_call 21; refine (names_any _ (HXB.out _ (by assumption)) HL1.out).mono ?_; rintro e w4 ⟨v4, rfl, hO4, hb4⟩; obtain ⟨a4, c4, rfl⟩ := OT.shape hO4; have hch4 := HBT.out _ _ (by assumption) hb4) | (go_at_call 22; refine (packs_any _ (HXB.out _ (by assumption)) HND.out HL3.out).mono ?_; rintro e w6 ⟨rfl, hO6, hb6⟩; have hch6 := HBT.out _ _ (by assumption) hb6) | (go_at_call 20; refine (same_eq _ _ _ _ (by first | exact hO6.ts | exact hO4.ts) (by first | exact HTP.out _ hch6 | exact HTN.out _ hch4) (by first | exact HL4.out | exact HL2.out)).mono ?_; rintro e w7 ⟨rfl, n7, rfl⟩; have hch7 := HBD.out _ n7 (by first | exact hch6 | exact hch4))))
      all_goals
        have HB9 : Hid (Below w.heap.size w (World.drewN w6 n7)) := HBw.out.trans (hch7.mono (by omega))
        clear hch7 hch6 hch4 hO6 hO4 hb6 hb4
        go_wp2
        go_ret
        exact ⟨rfl, HB9.out⟩
end Go.Proofs.Ytpfjcdfhlcnlcaa
