/- Contract: an index's Encode. -/
import Derived.Test.YtpfjcdfhlcnlcaaIdxP
import Derived.Test.YtpfjcdfhlcnlcaaBldF
import Derived.Deep.RegionHeld3
namespace Go.Proofs.Ytpfjcdfhlcnlcaa
open Go.RowKit Go.Maps
set_option linter.unusedVariables false
set_option linter.unusedSimpArgs false

theorem bwriteB (B b : Nat) (l s : List UInt8) (w : World) (h : BF B b l w) (hlen : l.length + s.length ≤ 140737488355328) (hBw : B ≤ w.heap.size) :
    Calls Try.prog 23 #[.pointer (some ⟨b, 0, none⟩), .string (mkB s)] w fun e w' => (∃ r, e = .returned r) ∧ BF B b (l ++ s) w' ∧ Below B w w' ∧ Lib.OthersKept 5 (some b) w w' :=
  bwriteF B b l (mkB s) w h (by rw [mkB_size]; exact hlen) hBw
theorem BF.below {B b : Nat} {l : List UInt8} {w w' : World} (h : BF B b l w) (hb : Below w.heap.size w w') : BF B b l w' := by
  have key : ∀ p, Lib.BuilderAtF 72 5 B b p (Lib.byteCells l) w → Lib.BuilderAtF 72 5 B b p (Lib.byteCells l) w' := fun p h => by
    have hlt := h.lt
    obtain ⟨hB, v, hbk, hown, hne⟩ := h
    refine ⟨hB, v, (hb.block _ hlt).trans hbk, ?_, hne⟩
    have hl := hown.lt
    refine ⟨hown.1, ?_⟩
    rcases hown.2 with h | ⟨g, cap, cur, fz, rfl, h2, h3, h4⟩
    · exact .inl h
    · exact .inr ⟨g, cap, cur, fz, rfl, h2, (hb.block _ (hl g rfl).2).trans h3, h4⟩
  rcases h with h | h
  · exact .inl (key _ h)
  · exact .inr (key _ h)
theorem OT.others {w w' : World} {B b : Nat} {v : Value} {l : List (List UInt8)} (h : OT w B v l) (hk : Lib.OthersKept 5 (some b) w w') (hb : v.ownBlock ≠ some b) : OT w' B v l := by
  obtain ⟨h1, h2⟩ := h
  refine ⟨h1, ?_⟩
  rcases h2 with h2 | ⟨g, cap, cur, rfl, hB, hg, r⟩
  · exact .inl h2
  · exact .inr ⟨g, cap, cur, rfl, hB, hk g _ hg (fun e => hb e) (fun c fz e => by injection e with _ e _; exact absurd e (by decide)), r⟩
theorem flat_pre {α : Type} (f : α → List UInt8) (l : List α) (k : Nat) : (((l.take k).map f).flatten).length ≤ ((l.map f).flatten).length := by
  conv => rhs; rw [← List.take_append_drop k l, List.map_append, List.flatten_append, List.length_append]
  omega
theorem flat_step {α : Type} (f : α → List UInt8) (l : List α) (k : Nat) (x : α) (h : l[k]? = some x) : ((l.take (k + 1)).map f).flatten = ((l.take k).map f).flatten ++ f x := by
  rw [List.take_add_one, h]; simp
theorem flat_one {α : Type} (f : α → List UInt8) (l : List α) (k : Nat) (x : α) (h : l[k]? = some x) : (f x).length ≤ ((l.map f).flatten).length := by
  have h1 := flat_pre f l (k + 1)
  rw [flat_step f l k x h, List.length_append] at h1
  omega
/-- A head whose numbers may be written. -/
def Hd.ok (h : Hd) : Prop := (0 ≤ h.m ∧ h.m ≤ 4294967295) ∧ (0 ≤ h.c ∧ h.c ≤ 4294967295) ∧ (0 ≤ h.p ∧ h.p ≤ 4294967295) ∧ (0 ≤ h.s ∧ h.s ≤ 4294967295) ∧ (0 ≤ h.a ∧ h.a ≤ 4294967295)
theorem pk_num (ps : List (List UInt8)) (k : List UInt8) : ∃ i : Nat, (lkA (pkA ps) k).getD 0 = (i : Int) ∧ i ≤ ps.length := by
  cases h : lkA (pkA ps) k with
  | none => exact ⟨0, rfl, Nat.zero_le _⟩
  | some z => obtain ⟨i, rfl, hi, _⟩ := pkA_lt h; exact ⟨i, rfl, by omega⟩
theorem cat_ok (a b : List UInt8) (h : a.length + b.length ≤ 4000000000) : ¬ 9223372036854775807 < (mkB a).size + (mkB b).size := by rw [mkB_size, mkB_size]; omega
/-- What the writing of a chunk reads. -/
def S14 (m1 : Option Nat) (x bp bh : Nat) (pk : List UInt8) (i m c p s a : Nat) (w : World) : Prop :=
  w.cell? ⟨x, 0, none⟩ = some (.map m1) ∧ w.cell? ⟨bp, 0, none⟩ = some (.string (mkB pk)) ∧ (Instr.lookup 24 (.map m1) (.string (mkB pk)) false).run Try.prog w = .ok (.int .i64 (i : Int)) w ∧
  w.cell? ⟨bh, 1, none⟩ = some (.int .i64 (m : Int)) ∧ w.cell? ⟨bh, 2, none⟩ = some (.int .u32 (c : Int)) ∧ w.cell? ⟨bh, 3, none⟩ = some (.int .i64 (p : Int)) ∧ w.cell? ⟨bh, 4, none⟩ = some (.int .i64 (s : Int)) ∧ w.cell? ⟨bh, 5, none⟩ = some (.int .i64 (a : Int))
set_option maxRecDepth 100000 in
set_option maxHeartbeats 4000000 in
theorem encode_any {x : Nat} {m1 m2 : Option Nat} {ps : List (List UInt8)} {F : As Pl} (w : World) (h : IXo w x m1 m2 ps F) (hnd : ps.Nodup) (hok : ∀ y p, lkA F y = some p → p.h.ok ∧ p.k.length ≤ 1000000000) (hl : ps.length ≤ 1000000) (hlF : F.length ≤ 1000000) (hE : (encI ps F).length ≤ 1000000000) :
    Calls Try.prog 12 #[.pointer (some ⟨x, 0, none⟩)] w fun e w' => e = .returned (.string (mkB (encI ps F))) ∧ Below w.heap.size w w' := by
  have HX : Hid (IXo w x m1 m2 ps F) := h
  have HND : Hid ps.Nodup := hnd
  have HOK : Hid (∀ y p, lkA F y = some p → p.h.ok ∧ p.k.length ≤ 1000000000) := hok
  have hx := h.lt
  have c0 := h.c0
  have hb0 : Below w.heap.size w (w.alloc (.cells #[.pointer none, .slice none 0 0] 72)) := (Below.refl _ w).alloc (Nat.le_refl _) _
  have hln := (h.below hb0).g1.len Try.underlying24
  rw [pkA_len] at hln
  have HEN : Hid (encI ps F = vb ps.length ++ (ps.map txB).flatten ++ vb F.length ++ ((nmA F).map (enB ps F)).flatten) := rfl
  have HLE : Hid ((vb ps.length).length + (ps.map txB).flatten.length + (vb F.length).length + ((nmA F).map (enB ps F)).flatten.length ≤ 1000000000) := by
    unfold Hid; have := hE; rw [HEN.out] at this; simp only [List.length_append] at this; omega
  have hq1 := vb_len ps.length (by omega)
  have hq2 := vb_len F.length (by omega)
  obtain ⟨n, hn⟩ : ∃ n, n = ps.length := ⟨_, rfl⟩
  have HN : Hid (n = ps.length) := hn
  obtain ⟨nf, hnf⟩ : ∃ nf, nf = F.length := ⟨_, rfl⟩
  have HNF : Hid (nf = F.length) := hnf
  rw [← hn] at hln hl
  rw [← hnf] at hlF
  clear h hnd hok hE hn hnf
  go_enter Try.func12, Try.ntmps12
  go_wp2_with fail
  refine (inum_any n _ (by omega)).mono ?_
  rintro e w2 ⟨rfl, hb2⟩
  have HB2 : Hid (Below w.heap.size w w2) := hb0.trans (hb2.mono (by simp))
  have HH2 : Hid (BF w.heap.size w.heap.size [] w2) := (bnewF w).below hb2
  have hz2 : w.heap.size + 1 ≤ w2.heap.size := by have := hb2.size; simpa using this
  clear hb2 hb0 hln
  obtain ⟨B, hBB⟩ : ∃ B, B = w.heap.size := ⟨_, rfl⟩
  have HBB : Hid (B = w.heap.size) := hBB
  rw [← hBB] at hz2 HB2 HH2 hx
  rw [← hBB]
  clear hBB
  go_wp2_with fail
  refine (bwriteB B B [] (vb n) _ HH2.out (by rw [HN.out]; simp; omega) (by omega)).mono ?_
  rintro e w3 ⟨⟨r3, rfl⟩, h3, hb3, -⟩
  have HB3 : Hid (Below B w w3) := HB2.out.trans hb3
  have hz3 := hb3.size
  have HH3 : Hid (BF B B (vb n) w3) := by unfold Hid; simpa using h3
  clear h3 hb3 HH2 HB2
  have HX3 : Hid (IXo w3 x m1 m2 ps F) := HX.out.below (by rw [← HBB.out]; exact HB3.out)
  go_wp2_with fail
  refine (packs_any w3 HX3.out HND.out (by rw [← HN.out]; exact hl)).mono ?_
  rintro e w4 ⟨rfl, hO4, hb4⟩
  rw [← HN.out] at hO4
  rw [← HN.out]
  have HO4 : Hid (OT w4 w3.heap.size (.slice (some ⟨w3.heap.size, 0, none⟩) n n) ps) := hO4
  have HB4 : Hid (Below B w w4) := HB3.out.trans (hb4.mono (by omega))
  have HH4 : Hid (BF B B (vb n) w4) := HH3.out.below hb4
  have hz4 : w3.heap.size < w4.heap.size := (World.ownsRow.lt hO4 _ rfl).2
  clear hO4 hb4 HH3 HB3 HX3 c0
  generalize w3.heap.size = g at *
  go_wp2
  go_loopw [20] (fun i wr => ∃ (k : Nat), k ≤ n ∧ i = .int .i64 (k : Int) ∧ BF B B (vb n ++ ((ps.take k).map txB).flatten) wr ∧ OT wr g (.slice (some ⟨g, 0, none⟩) n n) ps ∧ Below B w wr ∧ B + 1 ≤ wr.heap.size) (fun i _ => n - (intOf i).toNat)
  case atStart => exact ⟨0, Nat.zero_le _, rfl, by simpa using HH4.out, HO4.out, HB4.out, by omega⟩
  case round =>
    obtain ⟨k, hk, rfl, hbf, hO, hb, hwz⟩ := hrel
    have HBF : Hid (BF B B (vb n ++ ((ps.take k).map txB).flatten) wr) := hbf
    have HB : Hid (Below B w wr) := hb
    have HO : Hid (OT wr g (.slice (some ⟨g, 0, none⟩) n n) ps) := hO
    clear hbf hb hO HH4 HO4 HB4
    by_cases hlt : k < n
    · have hlti : (k : Int) < (n : Int) := by omega
      obtain ⟨q, hq⟩ : ∃ q, ps[k]? = some q := ⟨_, List.getElem?_eq_getElem (by rw [← HN.out]; exact hlt)⟩
      have hcell := HO.out.cell k (by rw [← HN.out]; exact hlt) HN.out
      rw [List.getD_eq_getElem?_getD, hq] at hcell
      have HTK : Hid (((ps.take (k + 1)).map txB).flatten = ((ps.take k).map txB).flatten ++ txB q) := flat_step txB ps k q hq
      have hf1 := flat_pre txB ps k
      have hf2 := flat_one txB ps k q hq
      have hf3 := HLE.out
      have hql : q.length ≤ (txB q).length := by unfold txB; rw [List.length_append]; omega
      have hvn : (vb n).length ≤ 10 := by rw [HN.out]; exact hq1
      change wr.cell? ⟨g, k, none⟩ = some (.string (mkB q)) at hcell
      go_wp2_with fail
      refine (itext_any q _ (by omega)).mono ?_
      rintro e w5 ⟨rfl, hb5⟩
      have HBF5 : Hid (BF B B (vb n ++ ((ps.take k).map txB).flatten) w5) := HBF.out.below hb5
      have HB5 : Hid (Below B w w5) := HB.out.trans (hb5.mono (by omega))
      have HO5 : Hid (OT w5 g (.slice (some ⟨g, 0, none⟩) n n) ps) := HO.out.below hb5
      have hz5 := hb5.size
      clear hb5 hcell HBF
      go_wp2_with fail
      refine (bwriteB B B _ (txB q) _ HBF5.out (by rw [List.length_append]; omega) (by omega)).mono ?_
      rintro e w6 ⟨⟨r6, rfl⟩, h6, hb6, hk6⟩
      have HB6 : Hid (Below B w w6) := HB5.out.trans hb6
      have hz6 := hb6.size
      have HH6 : Hid (BF B B (vb n ++ ((ps.take (k + 1)).map txB).flatten) w6) := by unfold Hid; rw [HTK.out, ← List.append_assoc]; exact h6
      have HO6 : Hid (OT w6 g (.slice (some ⟨g, 0, none⟩) n n) ps) := HO5.out.others hk6 (by simp [Value.ownBlock]; omega)
      clear h6 hb6 hk6
      go_wp2
      go_roundw
      case rel => exact ⟨k + 1, by omega, by go_num, HH6.out, HO6.out, HB6.out, by omega⟩
      case measure => simp [intOf]; omega
    · have hlti : ¬ (k : Int) < (n : Int) := by omega
      have HE : Hid (ps.take k = ps) := List.take_of_length_le (by rw [← HN.out]; omega)
      have HXr : Hid (IXo wr x m1 m2 ps F) := HX.out.below (by rw [← HBB.out]; exact HB.out)
      have c1 := HXr.out.c1
      have hln2 := HXr.out.g2.len Try.underlying25
      rw [← HNF.out] at hln2
      unfold Hid at HBF
      rw [HE.out] at HBF
      have HBF1 : Hid (BF B B (vb n ++ (ps.map txB).flatten) wr) := HBF
      clear HBF HO
      have hf3 := HLE.out
      rw [← HN.out, ← HNF.out] at hf3
      go_wp2_with fail
      refine (inum_any nf _ (by omega)).mono ?_
      rintro e w5 ⟨rfl, hb5⟩
      have HBF5 : Hid (BF B B (vb n ++ (ps.map txB).flatten) w5) := HBF1.out.below hb5
      have HB5 : Hid (Below B w w5) := HB.out.trans (hb5.mono (by omega))
      have hz5 := hb5.size
      clear hb5 HBF1 hln2 c1 HXr
      go_wp2_with fail
      refine (bwriteB B B _ (vb nf) _ HBF5.out (by rw [List.length_append]; omega) (by omega)).mono ?_
      rintro e w6 ⟨⟨r6, rfl⟩, h6, hb6, -⟩
      have HB6 : Hid (Below B w w6) := HB5.out.trans hb6
      have hz6 := hb6.size
      have HH6 : Hid (BF B B (vb n ++ (ps.map txB).flatten ++ vb nf) w6) := h6
      have HX6 : Hid (IXo w6 x m1 m2 ps F) := HX.out.below (by rw [← HBB.out]; exact HB6.out)
      clear h6 hb6 HBF5 HB5 HB
      go_wp2_with fail
      refine (names_any w6 HX6.out (by rw [← HNF.out]; omega)).mono ?_
      rintro e w7 ⟨v7, rfl, hO7, hb7⟩
      have hz7 := hb7.size
      have HB7 : Hid (Below B w w7) := HB6.out.trans (hb7.mono (by omega))
      have HH7 : Hid (BF B B (vb n ++ (ps.map txB).flatten ++ vb nf) w7) := HH6.out.below hb7
      have hnl : (nmA F).length = nf := by rw [nmA_len, HNF.out]
      have HNL : Hid ((nmA F).length = nf) := hnl
      obtain ⟨a7, c7, rfl⟩ : ∃ a7 c7, v7 = .slice a7 nf c7 := by
        rcases hO7.2 with ⟨rfl, h0⟩ | ⟨g', cap, cur, rfl, _⟩
        · exact ⟨none, 0, by rw [← hnl, h0]⟩
        · exact ⟨_, cap, by rw [hnl]⟩
      have HO7 : Hid (OT w7 (B + 1) (.slice a7 nf c7) (nmA F)) := ownsRow_base hO7 (by omega)
      clear hO7 hb7 HH6 HX6 HB6
      go_wp2
      go_loopw [38] (fun i wr => ∃ (k : Nat), k ≤ nf ∧ i = .int .i64 (k : Int) ∧ BF B B (vb n ++ (ps.map txB).flatten ++ vb nf ++ (((nmA F).take k).map (enB ps F)).flatten) wr ∧ OT wr (B + 1) (.slice a7 nf c7) (nmA F) ∧ Below B w wr ∧ B + 1 ≤ wr.heap.size) (fun i _ => nf - (intOf i).toNat)
      case atStart => exact ⟨0, Nat.zero_le _, rfl, by simpa using HH7.out, HO7.out, HB7.out, by omega⟩
      case round =>
        obtain ⟨k, hk, rfl, hbf, hO, hb, hwz⟩ := hrel
        have HBF : Hid (BF B B (vb n ++ (ps.map txB).flatten ++ vb nf ++ (((nmA F).take k).map (enB ps F)).flatten) wr) := hbf
        have HB : Hid (Below B w wr) := hb
        have HO : Hid (OT wr (B + 1) (.slice a7 nf c7) (nmA F)) := hO
        clear hbf hb hO HH7 HO7 HB7
        by_cases hlt : k < nf
        · have hlti : (k : Int) < (nf : Int) := by omega
          obtain ⟨q, hq⟩ : ∃ q, (nmA F)[k]? = some q := ⟨_, List.getElem?_eq_getElem (by rw [HNL.out]; exact hlt)⟩
          obtain ⟨g7, c7', e7, hg7, -⟩ := HO.out.form (by rw [HNL.out]; omega)
          rw [HNL.out] at e7
          injection e7 with e7a _ e7c
          subst e7a e7c
          have hcell := HO.out.cell k (by rw [HNL.out]; exact hlt) HNL.out.symm
          rw [List.getD_eq_getElem?_getD, hq] at hcell
          change wr.cell? ⟨g7, k, none⟩ = some (.string (mkB q)) at hcell
          have hc7 : nf ≤ c7 := by
            rcases HO.out.2 with ⟨h9, _⟩ | ⟨_, _, _, h9, _, _, h8, _⟩
            · cases h9
            · injection h9 with _ _ h9; rw [HNL.out] at h8; omega
          have HTK : Hid ((((nmA F).take (k + 1)).map (enB ps F)).flatten = (((nmA F).take k).map (enB ps F)).flatten ++ enB ps F q) := flat_step (enB ps F) (nmA F) k q hq
          have hf1 := flat_pre (enB ps F) (nmA F) k
          have hf2 := flat_one (enB ps F) (nmA F) k q hq
          obtain ⟨pp, hpp⟩ := Option.isSome_iff_exists.1 (nmA_mem.1 (List.mem_of_getElem? hq))
          obtain ⟨hpk, hpl⟩ := HOK.out q pp hpp
          obtain ⟨pk, ⟨pn, pm, pc, pz, pss, pa⟩⟩ := pp
          obtain ⟨⟨q1, q2⟩, ⟨q3, q4⟩, ⟨q5, q6⟩, ⟨q7, q8⟩, ⟨q9, q10⟩⟩ := hpk
          dsimp only at q1 q2 q3 q4 q5 q6 q7 q8 q9 q10 hpl
          obtain ⟨m, rfl⟩ := Int.eq_ofNat_of_zero_le q1
          obtain ⟨c, rfl⟩ := Int.eq_ofNat_of_zero_le q3
          obtain ⟨pz, rfl⟩ := Int.eq_ofNat_of_zero_le q5
          obtain ⟨sz, rfl⟩ := Int.eq_ofNat_of_zero_le q7
          obtain ⟨pa, rfl⟩ := Int.eq_ofNat_of_zero_le q9
          obtain ⟨i, hi, hil⟩ := pk_num ps pk
          have HENB : Hid (enB ps F q = txB q ++ vb i ++ vb m ++ vb c ++ vb pz ++ vb sz ++ vb pa) := by
            unfold Hid enB; rw [hpp]; simp only [Option.getD_some]; rw [hi]; simp only [Int.toNat_natCast]
          have hXr : IXo wr x m1 m2 ps F := HX.out.below (by rw [← HBB.out]; exact HB.out)
          have c1 := hXr.c1
          have hql : q.length ≤ (txB q).length := by unfold txB; rw [List.length_append]; omega
          have hqe : (txB q).length ≤ (enB ps F q).length := by rw [HENB.out]; simp only [List.length_append]; omega
          have hqq : q.length ≤ 1000000000 := by omega
          have hlk := hXr.g2.look1 Try.underlying25 (zeroPl _) q (by omega)
          rw [EP_ev, hpp] at hlk
          simp only [Option.getD_some, plV] at hlk
          obtain ⟨W2, hW2⟩ : ∃ W2, W2 = (wr.alloc (.cells #[.string (mkB pk), .string (mkB pn), .int .i64 (m : Int), .int .u32 (c : Int), .int .i64 (pz : Int), .int .i64 (sz : Int), .int .i64 (pa : Int)] 43)).alloc (.cells #[.string (mkB pn), .int .i64 (m : Int), .int .u32 (c : Int), .int .i64 (pz : Int), .int .i64 (sz : Int), .int .i64 (pa : Int)] 38) := ⟨_, rfl⟩
          have hb2 : Below wr.heap.size wr W2 := by rw [hW2]; exact ((Below.refl _ wr).alloc (Nat.le_refl _) _).alloc (by simp) _
          have hX2 : IXo W2 x m1 m2 ps F := hXr.below hb2
          have hzp := zeroPl
          have hzh := zeroHd
          go_upto_region 14 with fail
          rw [← hW2]
          have hN1 : W2.heap[wr.heap.size]? = some (.cells #[.string (mkB pk), .string (mkB pn), .int .i64 (m : Int), .int .u32 (c : Int), .int .i64 (pz : Int), .int .i64 (sz : Int), .int .i64 (pa : Int)] 43 (0, 0)) := by rw [hW2]; exact (Below.heap_alloc _ _ _ (by simp)).trans (heap_alloc_new _ _)
          have hN2 : W2.heap[wr.heap.size + 1]? = some (.cells #[.string (mkB pn), .int .i64 (m : Int), .int .u32 (c : Int), .int .i64 (pz : Int), .int .i64 (sz : Int), .int .i64 (pa : Int)] 38 (0, 0)) := by
            rw [hW2]; have h9 := heap_alloc_new (wr.alloc (.cells #[.string (mkB pk), .string (mkB pn), .int .i64 (m : Int), .int .u32 (c : Int), .int .i64 (pz : Int), .int .i64 (sz : Int), .int .i64 (pa : Int)] 43)) (.cells #[.string (mkB pn), .int .i64 (m : Int), .int .u32 (c : Int), .int .i64 (pz : Int), .int .i64 (sz : Int), .int .i64 (pa : Int)] 38)
            rw [World.size_alloc] at h9; exact h9
          have hs2 : W2.heap.size = wr.heap.size + 2 := by rw [hW2]; simp
          have HBW : Hid (Below B w W2) := HB.out.trans (hb2.mono (by omega))
          have HSK : Hid (∀ a, IXo a x m1 m2 ps F → a.heap[wr.heap.size]? = W2.heap[wr.heap.size]? → a.heap[wr.heap.size + 1]? = W2.heap[wr.heap.size + 1]? → S14 m1 x wr.heap.size (wr.heap.size + 1) pk i m c pz sz pa a) := fun a hX k1 k2 => by
            have z1 := k1.trans hN1
            have z2 := k2.trans hN2
            have hl1 := hX.g1.look1 Try.underlying24 (zeroIn a) pk (by omega)
            rw [EN_ev, hi] at hl1
            exact ⟨hX.c0, (cell_of_row _ _ _ _ _ _ z1).trans rfl, hl1, (cell_of_row _ _ _ _ _ _ z2).trans rfl, (cell_of_row _ _ _ _ _ _ z2).trans rfl, (cell_of_row _ _ _ _ _ _ z2).trans rfl, (cell_of_row _ _ _ _ _ _ z2).trans rfl, (cell_of_row _ _ _ _ _ _ z2).trans rfl⟩
          have HSB : Hid (∀ a, Below W2.heap.size W2 a → S14 m1 x wr.heap.size (wr.heap.size + 1) pk i m c pz sz pa a) := fun a ha => HSK.out a (hX2.below ha) (ha.block _ (by omega)) (ha.block _ (by omega))
          have HSW : Hid (∀ a b, Below W2.heap.size W2 a → Below B a b → Lib.OthersKept 5 (some B) a b → S14 m1 x wr.heap.size (wr.heap.size + 1) pk i m c pz sz pa b) := fun a b ha hab hk => HSK.out b (HX.out.below (by rw [← HBB.out]; exact (HBW.out.trans (ha.mono (by omega))).trans hab))
            (by rw [hN1]; exact hk _ _ ((ha.block _ (by omega)).trans hN1) (fun e => by have := Option.some.inj e; omega) (fun c fz e => by injection e with _ e _; exact absurd e (by decide)))
            (by rw [hN2]; exact hk _ _ ((ha.block _ (by omega)).trans hN2) (fun e => by have := Option.some.inj e; omega) (fun c fz e => by injection e with _ e _; exact absurd e (by decide)))
          have HBF2 : Hid (∀ a, Below W2.heap.size W2 a → BF B B (vb n ++ (ps.map txB).flatten ++ vb nf ++ (((nmA F).take k).map (enB ps F)).flatten) a) := fun a ha => (HBF.out.below hb2).below ha
          have HO2 : Hid (∀ a b, Below W2.heap.size W2 a → Lib.OthersKept 5 (some B) a b → OT b (B + 1) (.slice (some ⟨g7, 0, none⟩) nf c7) (nmA F)) := fun a b ha hk => ((HO.out.below hb2).below ha).others hk (by simp [Value.ownBlock]; omega)
          have HBT : Hid (∀ a b, Below W2.heap.size W2 a → Below a.heap.size a b → Below W2.heap.size W2 b) := fun a b ha hb => ha.trans (hb.mono ha.size)
          have hch0 : Below W2.heap.size W2 W2.drew := (Below.refl _ _).drew
          have hS0 := HSB.out _ hch0
          have hcw : IntKind.i64.wrap (c : Int) = (c : Int) := by rw [IntKind.wrap_i64]; omega
          have hm9 : m ≤ 4294967295 := by omega
          have hc9 : c ≤ 4294967295 := by omega
          have hp9 : pz ≤ 4294967295 := by omega
          have hs9 : sz ≤ 4294967295 := by omega
          have ha9 : pa ≤ 4294967295 := by omega
          have hi9 : i ≤ 1000000 := by have := HN.out; omega
          have hv1 := vb_len i (by omega)
          have hv2 := vb_len m (by omega)
          have hv3 := vb_len c (by omega)
          have hv4 := vb_len pz (by omega)
          have hv5 := vb_len sz (by omega)
          have hv6 := vb_len pa (by omega)
          have HTL : Hid (vb n ++ (ps.map txB).flatten ++ vb nf ++ (((nmA F).take k).map (enB ps F)).flatten = vb n ++ (ps.map txB).flatten ++ vb nf ++ (((nmA F).take k).map (enB ps F)).flatten) := rfl
          have hLT : (vb n ++ (ps.map txB).flatten ++ vb nf ++ (((nmA F).take k).map (enB ps F)).flatten).length ≤ 1000000000 := by simp only [List.length_append]; omega
          have hLE : (txB q).length ≤ 1000000000 := by omega
          clear hb2 hX2 hXr hlk hN1 hN2 hcell c1 hpp hW2 q1 q2 q3 q4 q5 q6 q7 q8 q9 q10 hf1 hf2 hqe hql
          rw [show txB q ++ vb i ++ vb m ++ vb c ++ vb pz ++ vb sz ++ vb pa = (((((txB q ++ vb i) ++ vb m) ++ vb c) ++ vb pz) ++ vb sz) ++ vb pa from rfl] at HENB
          obtain ⟨T1, hT1⟩ : ∃ T1, T1 = txB q ++ vb i := ⟨_, rfl⟩
          have l1 : T1.length ≤ 1000000010 := by rw [hT1, List.length_append]; omega
          obtain ⟨T2, hT2⟩ : ∃ T2, T2 = T1 ++ vb m := ⟨_, rfl⟩
          have l2 : T2.length ≤ 1000000020 := by rw [hT2, List.length_append]; omega
          obtain ⟨T3, hT3⟩ : ∃ T3, T3 = T2 ++ vb c := ⟨_, rfl⟩
          have l3 : T3.length ≤ 1000000030 := by rw [hT3, List.length_append]; omega
          obtain ⟨T4, hT4⟩ : ∃ T4, T4 = T3 ++ vb pz := ⟨_, rfl⟩
          have l4 : T4.length ≤ 1000000040 := by rw [hT4, List.length_append]; omega
          obtain ⟨T5, hT5⟩ : ∃ T5, T5 = T4 ++ vb sz := ⟨_, rfl⟩
          have l5 : T5.length ≤ 1000000050 := by rw [hT5, List.length_append]; omega
          obtain ⟨T6, hT6⟩ : ∃ T6, T6 = T5 ++ vb pa := ⟨_, rfl⟩
          have l6 : T6.length ≤ 1000000060 := by rw [hT6, List.length_append]; omega
          have HT6 : Hid (enB ps F q = T6) := by unfold Hid; rw [HENB.out, hT6, hT5, hT4, hT3, hT2, hT1]
          have k1 := catB (txB q) (vb i)
          have k2 := catB T1 (vb m)
          have k3 := catB T2 (vb c)
          have k4 := catB T3 (vb pz)
          have k5 := catB T4 (vb sz)
          have k6 := catB T5 (vb pa)
          rw [← hT1] at k1
          rw [← hT2] at k2
          rw [← hT3] at k3
          rw [← hT4] at k4
          rw [← hT5] at k5
          rw [← hT6] at k6
          have y1 := cat_ok (txB q) (vb i) (by omega)
          have y2 := cat_ok T1 (vb m) (by omega)
          have y3 := cat_ok T2 (vb c) (by omega)
          have y4 := cat_ok T3 (vb pz) (by omega)
          have y5 := cat_ok T4 (vb sz) (by omega)
          have y6 := cat_ok T5 (vb pa) (by omega)
          clear hT1 hT2 hT3 hT4 hT5 hT6 HENB
          have HQQ : Hid (q.length ≤ 1000000000) := hqq
          have HLT : Hid ((vb n ++ (ps.map txB).flatten ++ vb nf ++ (((nmA F).take k).map (enB ps F)).flatten).length + T6.length ≤ 140737488355328) := by unfold Hid; omega
          have HBS : Hid (∀ a, Below W2.heap.size W2 a → B ≤ a.heap.size) := fun a ha => by have := ha.size; omega
          unfold S14 at hS0 HSB HSW
          go_region_held3 (fun w' : World => w'.cell? ⟨x, 0, none⟩ = some (.map m1) ∧ w'.cell? ⟨wr.heap.size, 0, none⟩ = some (.string (mkB pk)) ∧ (Instr.lookup 24 (.map m1) (.string (mkB pk)) false).run Try.prog w' = .ok (.int .i64 (i : Int)) w' ∧ w'.cell? ⟨wr.heap.size + 1, 1, none⟩ = some (.int .i64 (m : Int)) ∧ w'.cell? ⟨wr.heap.size + 1, 2, none⟩ = some (.int .u32 (c : Int)) ∧ w'.cell? ⟨wr.heap.size + 1, 3, none⟩ = some (.int .i64 (pz : Int)) ∧ w'.cell? ⟨wr.heap.size + 1, 4, none⟩ = some (.int .i64 (sz : Int)) ∧ w'.cell? ⟨wr.heap.size + 1, 5, none⟩ = some (.int .i64 (pa : Int)))
            (first | exact hS0 | exact HSB.out _ hch4 | exact HSB.out _ hch5 | exact HSW.out _ _ (by assumption) hb6 hk6)
            ((first | (go_at_call 25; refine (itext_any q _ (by have := HQQ.out; omega)).mono ?_; rintro e w4 ⟨rfl, hb4⟩; have hch4 := HBT.out _ _ (by assumption) hb4) | (go_at_call 24; refine (inum_any _ _ (by omega)).mono ?_; rintro e w5 ⟨rfl, hb5⟩; have hch5 := HBT.out _ _ (by assumption) hb5) | (go_at_call 23; refine (bwriteB B B _ T6 _ (HBF2.out _ (by assumption)) HLT.out (HBS.out _ (by assumption))).mono ?_; rintro e w6 ⟨⟨r6, rfl⟩, h6, hb6, hk6⟩)))
          all_goals
            have HF6 : Hid (BF B B (vb n ++ (ps.map txB).flatten ++ vb nf ++ (((nmA F).take (k + 1)).map (enB ps F)).flatten) w6) := by unfold Hid; rw [HTK.out, HT6.out, ← List.append_assoc]; exact h6
            have HO6 : Hid (OT w6 (B + 1) (.slice (some ⟨g7, 0, none⟩) nf c7) (nmA F)) := HO2.out _ _ (by assumption) hk6
            have HB6 : Hid (Below B w w6) := (HBW.out.trans ((show Below W2.heap.size W2 _ by assumption).mono (by omega))).trans hb6
            have hz6 : B + 1 ≤ w6.heap.size := by have h8 := hb6.size; have h9 := (show Below W2.heap.size W2 _ by assumption).size; omega
            clear h6 hb6 hk6 hS0 HSB HSW HSK HBF2 HO2 HBT HBW HO HBF
            go_wp2
            go_roundw
            case rel => exact ⟨k + 1, by omega, by go_num, HF6.out, HO6.out, HB6.out, hz6⟩
            case measure => simp [intOf]; omega
        · have hlti : ¬ (k : Int) < (nf : Int) := by omega
          have HE2 : Hid ((nmA F).take k = nmA F) := List.take_of_length_le (by rw [HNL.out]; omega)
          have HBX : Hid (BF B B (encI ps F) wr) := by
            have h9 := HBF.out
            rw [HE2.out, HN.out, HNF.out] at h9
            exact h9
          have HSTR : Hid (Calls Try.prog _ _ _ _) := bstringF B B _ _ HBX.out (by omega)
          clear HBF
          go_wp2_with fail
          refine HSTR.out.mono ?_
          rintro e w8 ⟨rfl, hb8⟩
          go_wp2
          go_ret
          rw [← HBB.out]
          exact ⟨rfl, HB.out.trans hb8⟩
end Go.Proofs.Ytpfjcdfhlcnlcaa
