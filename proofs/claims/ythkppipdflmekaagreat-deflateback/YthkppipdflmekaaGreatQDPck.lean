/- deflate's pack: the walk. -/
import Derived.Test.YthkppipdflmekaaGreatQDBlk
import Derived.Test.YthkppipdflmekaaGreatQSnkA
set_option maxRecDepth 100000
set_option maxHeartbeats 4000000
namespace Go.Proofs.YthkppipdflmekaaGreat
open Go.RowKit
set_option linter.unusedVariables false
set_option linter.unusedSimpArgs false
def dynD (ts : List Tok) : PBk := dynB (symF (qah ts)) (farF (qah ts)) (fstF (qca (zL (symF (qah ts) ++ farF (qah ts))))) ts
def blkD (ts : List Tok) : PBk := if ((dynD ts).bits 0).length < ((fixB ts).bits 0).length then dynD ts else fixB ts
def q0g (ts : List Tok) (i : Nat) : PBk := blkD ((ts.drop (i * 4000)).take 4000)
def qn9 (ts : List Tok) : List PBk := (List.range ((ts.length - 1) / 4000 + 1)).map (q0g ts)
theorem q3b {ls ds fs : List Nat} {ts : List Tok} (hk : TkIn ts) (h1 : LnOk (symF (qah ts)) ls 257 286 15 (fun i => ∃ s ∈ qah ts, s.sym = i)) (h2 : LnOk (farF (qah ts)) ds 1 30 15 (fun i => ∃ s ∈ qah ts, s.rep = true ∧ s.far = i)) (h3 : LnOk (fstF (qca (zL (ls ++ ds)))) fs 19 19 7 (fun i => ∃ s ∈ qca (zL (ls ++ ds)), s.sym.toNat = i)) : (dynB ls ds fs ts).Ok := by
 have hfl : fs.length = 19 := by have := h3.lo; have := h3.hi; omega
 have hend : qf0 ∈ qah ts := List.mem_append.2 (.inr (List.mem_singleton.2 rfl))
 have hE := h1.pos 256 ⟨qf0, hend, rfl⟩
 refine ⟨.inr ⟨rfl, ⟨h3.okl (by decide) (by decide), hfl, fun x hx => h3.le x hx, ?_, ?_, ?_, h1.lo, h1.hi, h2.lo, h2.hi, ?_⟩⟩, h1.okl (by decide) (by decide), h2.okl (by decide) (by decide), hE.1, hE.2, fun t ht => ?_⟩
 · show 4 ≤ (qbc (tldL fs) 4).length
   rw [qbk]; exact ql8 _ _ _ (by rw [qcm]; omega)
 · show (qbc (tldL fs) 4).length ≤ 19
   have := qeo (zL (tldL fs)) 4 (tldL fs).length
   rw [qbk]; rw [qcm] at this ⊢; exact this
 · intro j hj1 hj2
   have hj1' : (qbc (tldL fs) 4).length ≤ j := hj1
   rw [qbk] at hj1'
   have := qe6 (tldL fs) 4 j hj1'
   unfold ln tldL at this
   rw [List.getD_eq_getElem?_getD, List.getElem?_map, List.getElem?_eq_getElem (show j < ordL.length from hj2)] at this
   have e : ordL.getD j 0 = ordL[j]'hj2 := by rw [List.getD_eq_getElem?_getD, List.getElem?_eq_getElem (show j < ordL.length from hj2)]; rfl
   rw [e]; exact this
 · intro s hs
   have hs' : s ∈ qca (zL (ls ++ ds)) := by
    rw [← qgk]
    have hz : (zL (ls ++ ds)).length = (ls ++ ds).length := qa9 _
    rw [hz]; exact hs
   exact (h3.pos s.sym.toNat ⟨s, hs', rfl⟩).2
 · have hm : sgT t ∈ qah ts := List.mem_append.2 (.inl (List.mem_map.2 ⟨t, ht, rfl⟩))
   have hp := h1.pos (symT t) ⟨sgT t, hm, q13 t⟩
   refine ⟨(hk t ht).2, hp.1, hp.2, fun h0 => ?_⟩
   have hf := q14 h0
   exact h2.pos (farT t) ⟨sgT t, hm, hf.1, hf.2⟩
theorem q29 {ls ds fs : List Nat} {ts : List Tok} (hk : TkIn ts) (last : Bool) (h1 : LnOk (symF (qah ts)) ls 257 286 15 (fun i => ∃ s ∈ qah ts, s.sym = i)) (h2 : LnOk (farF (qah ts)) ds 1 30 15 (fun i => ∃ s ∈ qah ts, s.rep = true ∧ s.far = i)) (h3 : LnOk (fstF (qca (zL (ls ++ ds)))) fs 19 19 7 (fun i => ∃ s ∈ qca (zL (ls ++ ds)), s.sym.toNat = i)) : PsOk (dynP ls ds fs ts last) := by
 have ht19 : (qbc (tldL fs) 4).length ≤ 19 := by
  have := qeo (zL (tldL fs)) 4 (tldL fs).length
  rw [qbk]; rw [qcm] at this ⊢; exact this
 have hl2 := h1.hi
 have hd2 := h2.hi
 refine (((PsOk.app ?_ ?_).app (qyk (h3.okl (by decide) (by decide)) (qqn (fun y hy => (List.mem_append.1 hy).elim (h1.le y) (h2.le y))))).app (qn5 (h1.okl (by decide) (by decide)) (h2.okl (by decide) (by decide)) hk))
 · refine (qrm last 2 (by decide)).app (fun p hp => ?_)
   simp only [List.mem_cons, List.not_mem_nil, or_false] at hp
   rcases hp with rfl | rfl | rfl
   · exact ⟨by show ls.length - 257 < _; omega, by show 5 ≤ 32; decide⟩
   · exact ⟨by show ds.length - 1 < _; omega, by show 5 ≤ 32; decide⟩
   · exact ⟨by show (qbc (tldL fs) 4).length - 4 < _; omega, by show 4 ≤ 32; decide⟩
 · refine q1k (fun y hy => ?_)
   obtain ⟨t, ht, rfl⟩ := List.mem_map.1 (List.mem_of_mem_take hy)
   by_cases htl : t < fs.length
   · exact h3.le _ (by rw [List.getD_eq_getElem?_getD, List.getElem?_eq_getElem htl]; exact List.getElem_mem htl)
   · rw [List.getD_eq_getElem?_getD, List.getElem?_eq_none (by omega)]; exact Nat.zero_le _
theorem qz0 {ls ds fs : List Nat} {ts : List Tok} (last : Bool) (h1 : ls.length ≤ 286) (h2 : ds.length ≤ 30) (hl : ts.length ≤ 4000) : (dynP ls ds fs ts last).length ≤ 20000 := by
 have ht19 : (qbc (tldL fs) 4).length ≤ 19 := by
  have := qeo (zL (tldL fs)) 4 (tldL fs).length
  rw [qbk]; rw [qcm] at this ⊢; exact this
 have hb := qc6 ls ds (qah ts)
 rw [qds] at hb
 have hs : (qca (zL (ls ++ ds))).length ≤ 316 := by
  obtain ⟨f1, f2, f3⟩ := qie (zL (ls ++ ds)) (zL (ls ++ ds)).length
  have h3 : (zL (ls ++ ds)).length = ls.length + ds.length := by rw [qa9, List.length_append]
  unfold qca; omega
 unfold dynP qd5 qcr tolP
 simp only [List.length_append, List.length_cons, List.length_nil, List.length_map, qfw]
 omega
theorem qtu (ts : List Tok) (last : Bool) (hl : ts.length ≤ 4000) : (qbq ts last).length ≤ 20000 := by
 have hb := qc6 fixL fixD (qah ts)
 rw [qds] at hb
 unfold qbq qcr
 simp only [List.length_append, List.length_cons, List.length_nil]
 omega
theorem qgz (b : PBk) : ∀ bs : List PBk, qb5 (bs ++ [b]) = bs.flatMap (PBk.bits 0) ++ b.bits 1
 | [] => rfl
 | c :: bs => by
  have ih := qgz b bs
  rw [List.flatMap_cons, List.append_assoc, ← ih]
  cases bs with
  | nil => rfl
  | cons d r => rfl
theorem Tryz.undTk : Tryz.prog.underlying 33 = some (.slice (Tryz.prog.elem 33)) := by kernel_rfl
theorem Tryz.szTk (W : World) : (sizeOf (Tryz.prog.elem 33)).run Tryz.prog W = .ok 3 W := by kernel_rfl
theorem q37 {w : World} {a : Option Addr} {N cap : Nat} {ts : List Tok} (h : TRO w (.slice a N cap) ts) (m : Nat) (hm : m ≤ N) :
    (∀ W, (Instr.slice 33 (.slice a N cap) none (some (.int .i64 (m : Int))) none).run Tryz.prog W = .ok (.slice a m cap) W) ∧ TRO w (.slice a m cap) (ts.take m) := by
 obtain ⟨a', cap', e, hc, hz, hf⟩ := h
 injection e with e1 e2 e3
 subst e1 e3
 have hl : (ts.take m).length = m := by rw [List.length_take]; omega
 refine ⟨fun W => ?_, a, cap, by rw [hl], by omega, hz, fun hne => ?_⟩
 · rw [run_slice_h (ht := Tryz.undTk) (h0 := by omega) (h2 := by omega), Tryz.szTk]
   cases a with
   | none => simp [Result.andThen, sliced]
   | some y =>
    obtain ⟨b, o, s⟩ := y
    cases s <;> simp [Result.andThen, sliced, Addr.add]
 · obtain ⟨g, o, rfl, hg, hcl⟩ := hf (fun e => hne (by rw [e]; simp))
   refine ⟨g, o, rfl, hg, fun i t ht => hcl i t ?_⟩
   rw [List.getElem?_take] at ht
   split at ht
   · exact ht
   · cases ht
theorem q36 {w : World} {a : Option Addr} {N cap : Nat} {ts : List Tok} (h : TRO w (.slice a N cap) ts) (m : Nat) (hm : m ≤ N) :
    ∃ a2, (∀ W, (Instr.slice 33 (.slice a N cap) (some (.int .i64 (m : Int))) none none).run Tryz.prog W = .ok (.slice a2 (N - m) (cap - m)) W) ∧ TRO w (.slice a2 (N - m) (cap - m)) (ts.drop m) := by
 obtain ⟨a', cap', e, hc, hz, hf⟩ := h
 injection e with e1 e2 e3
 subst e1 e3
 refine ⟨if cap = m then a else a.map (·.add (m * 3)), fun W => ?_, _, _, by rw [List.length_drop, e2], by rw [List.length_drop]; omega, fun hn => ?_, fun hne => ?_⟩
 · rw [run_slice_l (ht := Tryz.undTk) (h0 := by omega) (h1 := by omega), Tryz.szTk]
   simp [Result.andThen, sliced]
 · split at hn
   · omega
   · cases a with
     | none => have := hz rfl; omega
     | some x => cases hn
 · have hlt : m < ts.length := by
     rcases Nat.lt_or_ge m ts.length with h | h
     · exact h
     · exact absurd (List.drop_eq_nil_of_le h) hne
   obtain ⟨g, o, rfl, hg, hcl⟩ := hf (fun e => by rw [e] at hlt; simp at hlt)
   refine ⟨g, o + m * 3, ?_, hg, fun i t ht => ?_⟩
   · rw [if_neg (by omega), Option.map_some, Addr.add_mid]
   · rw [List.getElem?_drop] at ht
     have := hcl _ t ht
     rw [show o + m * 3 + i * 3 = o + (m + i) * 3 by omega]
     exact this
def qhh (b : PBk) : Prop := b = blkD b.ts ∧ ∀ la : Nat, (b.bits la).length ≤ ((fixB b.ts).bits la).length
theorem qbu (b : PBk) (x y : Nat) : (b.bits x).length = (b.bits y).length := by
 unfold PBk.bits; simp only [List.length_append, qat]
structure Packed (us : List Tok) (k : Nat) (bs : List PBk) : Prop where
 ok : ∀ b ∈ bs, b.Ok ∧ qhh b
 ts : bs.flatMap PBk.ts = us.take k
 few : bs.length * 4000 = k
 cut : bs = (List.range bs.length).map (q0g us)
 len : (bs.flatMap (PBk.bits 0)).length ≤ 1000000 * bs.length
theorem Packed.nil (ts : List Tok) : Packed ts 0 [] := ⟨fun b hb => (by cases hb), rfl, (by rw [List.length_nil, Nat.zero_mul]), rfl, Nat.zero_le _⟩
def q10 : Value → Nat | .slice _ n _ => n | _ => 0
theorem Packed.snoc {ts : List Tok} {k m : Nat} {bs : List PBk} {b : PBk} (h : Packed ts k bs) (hb : b.Ok) (hs : qhh b) (ht : b.ts = (ts.drop k).take m) (hm : m = 4000) (hl : (b.bits 0).length ≤ 1000000) : Packed ts (k + m) (bs ++ [b]) := by
 refine ⟨fun c hc => ?_, ?_, ?_, ?_, ?_⟩
 · rcases List.mem_append.1 hc with h1 | h1
   · exact h.ok c h1
   · rw [List.mem_singleton.1 h1]; exact ⟨hb, hs⟩
 · rw [List.flatMap_append, h.ts, List.take_add]
   simp [ht]
 · have := h.few
   rw [List.length_append, List.length_cons, List.length_nil]; omega
 · rw [List.length_append, show [b].length = 1 from rfl, List.range_succ, List.map_append, ← h.cut]
   congr 1
   have hbt := hs.1
   rw [ht, hm] at hbt
   rw [List.map_cons, List.map_nil, hbt]
   unfold q0g; rw [h.few]
 · have := h.len
   rw [List.flatMap_append, List.length_append, List.length_append, List.length_cons, List.length_nil]
   simp only [List.flatMap_cons, List.flatMap_nil, List.append_nil]; omega
theorem Packed.fin {ts : List Tok} {k : Nat} {bs : List PBk} {b : PBk} (h : Packed ts k bs) (hs : qhh b) (ht : b.ts = ts.drop k) (hk : k < ts.length ∨ k = 0) (hr : ts.length - k ≤ 4000) : bs ++ [b] = qn9 ts := by
 have hn : (ts.length - 1) / 4000 = bs.length := by
  have := h.few
  rw [Nat.div_eq_iff (by decide)]
  omega
 unfold qn9
 rw [hn, List.range_succ, List.map_append, ← h.cut]
 congr 1
 rw [List.map_cons, List.map_nil, hs.1, ht]
 unfold q0g
 rw [h.few, List.take_of_length_le (by rw [List.length_drop]; omega)]
theorem q2u (x y : Int) (W : World) : (Builtin.min_ #[3, 3] 3 #[.int .i64 x, .int .i64 y]).run Tryz.prog W = .ok (.int .i64 (min x y)) W := by
 have h : ∀ (x y : Int) (W : World), (Builtin.min2 (.int .i64 x) (.int .i64 y)).run Tryz.prog W = .ok (.int .i64 (min x y)) W := fun x y W => by
  unfold Builtin.min2
  simp [go_sem]
  split <;> congr 2 <;> omega
 unfold Builtin.min_
 simp only [List.foldlM, Sem.run_bind, h, Result.andThen_ok, Sem.run_pure]
theorem qzb (v : Value) (ts : List Tok) (w : World) (hT : TRO w v ts) (hk : TkIn ts) (hl : ts.length ≤ 70000) :
    Calls Tryz.prog 11 #[v] w fun e w' => ∃ bs : List PBk, e = .returned (.string (qb8 (qb5 bs))) ∧ bs ≠ [] ∧ (∀ b ∈ bs, b.Ok ∧ qhh b) ∧ bs.flatMap PBk.ts = ts ∧ (qb5 bs).length ≤ 100000000 ∧ bs = qn9 ts ∧ Below w.heap.size w w' := by
 have HT0 : Hid (TRO w v ts) := hT
 have HK : Hid (TkIn ts) := hk
 obtain ⟨a0, cap0, rfl, -, -, -⟩ := hT
 obtain ⟨N, hN⟩ : ∃ N, N = ts.length := ⟨_, rfl⟩
 have HN : Hid (N = ts.length) := hN
 rw [← hN] at HT0 hl ⊢
 clear hN hk
 have hzS := (zero_of_info Tryz.zeroSnk).1
 have hS0 := qu2 w
 have HS0 : Hid (qav (w.alloc (.cells snk0 65)) w.heap.size []) := hS0
 have HB0 : Hid (Below w.heap.size w (w.alloc (.cells snk0 65))) := (Below.refl _ w).alloc (Nat.le_refl _) _
 clear hS0
 go_enter Tryz.func11, Tryz.ntmps11
 go_wp2
 generalize w.alloc (.cells snk0 65) = W0 at *
 go_loopw [0] (fun t wr => ∃ (k : Nat) (ta : Option Addr) (tc : Nat) (bs : List PBk), k ≤ N ∧ (k < N ∨ k = 0) ∧ t = .slice ta (N - k) tc ∧ Hid (TRO w (.slice ta (N - k) tc) (ts.drop k)) ∧ Hid (Packed ts k bs) ∧ qav wr w.heap.size (bs.flatMap (PBk.bits 0)) ∧ Below w.heap.size w wr) (fun t _ => q10 t)
 case atStart => exact ⟨0, a0, cap0, [], Nat.zero_le _, .inr rfl, rfl, by unfold Hid; rw [List.drop_zero, Nat.sub_zero]; exact HT0.out, Packed.nil ts, HS0.out, HB0.out⟩
 case round =>
  clear HS0 HB0 hzS
  obtain ⟨k, ta, tc, bs, hkN, hk0, rfl, HT, HP, hS, hb⟩ := hrel
  have HS : Hid (qav wr w.heap.size (bs.flatMap (PBk.bits 0))) := hS
  have HB : Hid (Below w.heap.size w wr) := hb
  have hgl := hS.lt
  have hsr := hb.size
  obtain ⟨R, hR⟩ : ∃ R, R = N - k := ⟨_, rfl⟩
  obtain ⟨m, hm⟩ : ∃ m, m = min R 4000 := ⟨_, rfl⟩
  rw [← hR] at HT ⊢
  have hmR : m ≤ R := by omega
  have hm4 : m ≤ 4000 := by omega
  obtain ⟨hr1, hT1⟩ := q37 HT.out m hmR
  obtain ⟨a2, hr2, hT2⟩ := q36 HT.out m hmR
  have HT1 : Hid (TRO w (.slice ta m tc) ((ts.drop k).take m)) := hT1
  have HT2 : Hid (TRO w (.slice a2 (R - m) (tc - m)) ((ts.drop k).drop m)) := hT2
  obtain ⟨t1, ht1⟩ : ∃ t1, t1 = (ts.drop k).take m := ⟨_, rfl⟩
  have HT1E : Hid ((ts.drop k).take m = t1) := ht1.symm
  rw [← ht1] at HT1
  have hk1 : TkIn t1 := fun t ht => HK.out t (by rw [ht1] at ht; exact List.mem_of_mem_drop (List.mem_of_mem_take ht))
  have hl1 : t1.length ≤ 4000 := by rw [ht1, List.length_take]; omega
  have HK1 : Hid (TkIn t1) := hk1
  have HL1 : Hid (t1.length ≤ 4000) := hl1
  have HSO := qot (.slice ta m tc) t1 wr (HT1.out.below HB.out) hk1 (by omega)
  have HRR : Hid (R = N - k) := hR
  have HMM : Hid (m = min R 4000) := hm
  clear hS hb ht1 hT1 hT2 hk1 hl1 hR hm
  have hmn : ∀ W, (Builtin.min_ #[3, 3] 3 #[.int .i64 (R : Int), .int .i64 4000]).run Tryz.prog W = .ok (.int .i64 (m : Int)) W := fun W => by
   rw [q2u]; congr 2; have := HMM.out; omega
  go_wp2_with fail
  refine HSO.mono ?_
  rintro e w1 ⟨vs, rfl, hsg, hb1⟩
  obtain ⟨sa, sc, rfl, -, -⟩ := id hsg
  have HSG1 : Hid (SgS w1 (.slice sa (qah t1).length sc) (qah t1)) := hsg
  have HB1 : Hid (Below w.heap.size w w1) := HB.out.trans (hb1.mono hsr)
  have HS1 : Hid (qav w1 w.heap.size (bs.flatMap (PBk.bits 0))) := HS.out.below hb1
  have HS1L : Hid (w.heap.size < w1.heap.size) := HS1.out.lt
  have hs1 := HB1.out.size
  obtain ⟨lb, hlb⟩ : ∃ lb : Bool, (((R - m : Nat) : Int) == 0) = lb := ⟨_, rfl⟩
  have HLB : Hid (lb = decide (R - m = 0)) := by
   unfold Hid; rw [← hlb]
   by_cases h : R - m = 0
   · rw [h]; rfl
   · rw [decide_eq_false h, beq_eq_false_iff_ne]; omega
  have HFX := qjs _ t1 lb w1 hsg HK1.out HL1.out
  clear hsg hb1 HSO hmn
  go_wp2_with fail
  refine HFX.mono ?_
  rintro e w2 ⟨vf, rfl, hof, hb2⟩
  obtain ⟨fa, fc, rfl⟩ := hof.shape
  have HB2 : Hid (Below w.heap.size w w2) := HB1.out.trans (hb2.mono hs1)
  have HS2 : Hid (qav w2 w.heap.size (bs.flatMap (PBk.bits 0))) := HS1.out.below hb2
  have HO2 : Hid (PO w2 w1.heap.size (.slice fa (qbq t1 lb).length fc) (qbq t1 lb)) := hof
  have HS2L : Hid (w.heap.size < w2.heap.size) := HS2.out.lt
  have HDB := qhg _ t1 lb w2 (HSG1.out.below hb2) HK1.out HL1.out
  have hs2 := HB2.out.size
  clear hof hb2 HFX
  go_wp2_with fail
  refine HDB.mono ?_
  rintro e w3 ⟨vd, ls, ds, fs, rfl, hod, hk1, hk2, hk3, hb3⟩
  obtain ⟨da, dc, rfl⟩ := hod.shape
  have HB3 : Hid (Below w.heap.size w w3) := HB2.out.trans (hb3.mono hs2)
  have HS3 : Hid (qav w3 w.heap.size (bs.flatMap (PBk.bits 0))) := HS2.out.below hb3
  have HO23 : Hid (PO w3 w1.heap.size (.slice fa (qbq t1 lb).length fc) (qbq t1 lb)) := HO2.out.below hb3
  have HOD : Hid (PO w3 w2.heap.size (.slice da (dynP ls ds fs t1 lb).length dc) (dynP ls ds fs t1 lb)) := hod
  have HDK : Hid ((dynB ls ds fs t1).Ok) := q3b HK1.out hk1 hk2 hk3
  have HDEQ : Hid (dynB ls ds fs t1 = dynD t1) := by unfold Hid dynD; rw [hk3.is, hk2.is, hk1.is]
  have HDOK : Hid (PsOk (dynP ls ds fs t1 lb)) := q29 HK1.out lb hk1 hk2 hk3
  have HFOK : Hid (PsOk (qbq t1 lb)) := qwk HK1.out lb
  have HDL : Hid ((dynP ls ds fs t1 lb).length ≤ 20000) := qz0 lb hk1.hi hk2.hi HL1.out
  have HFL : Hid ((qbq t1 lb).length ≤ 20000) := qtu t1 lb HL1.out
  have HC1 := qje _ (dynP ls ds fs t1 lb) w3 hod.ps (by have := HDL.out; omega) HDOK.out
  have HDBT : Hid (prsB (dynP ls ds fs t1 lb) = (dynB ls ds fs t1).bits (qbf lb)) := qwz ls ds fs t1 lb
  have HFBT : Hid (prsB (qbq t1 lb) = (fixB t1).bits (qbf lb)) := qwl t1 lb
  have hs3 := HB3.out.size
  clear hod hk1 hk2 hk3 hb3 HDB HO2 HS1 HS2
  go_wp2_with fail
  refine HC1.mono ?_
  rintro e w4 ⟨rfl, hb4⟩
  have HB4 : Hid (Below w.heap.size w w4) := HB3.out.trans (hb4.mono hs3)
  have HS4 : Hid (qav w4 w.heap.size (bs.flatMap (PBk.bits 0))) := HS3.out.below hb4
  have HO4 : Hid (PO w4 w1.heap.size (.slice fa (qbq t1 lb).length fc) (qbq t1 lb)) := HO23.out.below hb4
  have HOD4 : Hid (PO w4 w2.heap.size (.slice da (dynP ls ds fs t1 lb).length dc) (dynP ls ds fs t1 lb)) := HOD.out.below hb4
  have HC2 := qje _ (qbq t1 lb) w4 HO4.out.ps (by have := HFL.out; omega) HFOK.out
  have hs4 := HB4.out.size
  clear hb4 HC1
  go_wp2_with fail
  refine HC2.mono ?_
  rintro e w5 ⟨rfl, hb5⟩
  have HB5 : Hid (Below w.heap.size w w5) := HB4.out.trans (hb5.mono hs4)
  have HS5 : Hid (qav w5 w.heap.size (bs.flatMap (PBk.bits 0))) := HS4.out.below hb5
  have HO5 : Hid (PO w5 w1.heap.size (.slice fa (qbq t1 lb).length fc) (qbq t1 lb)) := HO4.out.below hb5
  have HOD5 : Hid (PO w5 w2.heap.size (.slice da (dynP ls ds fs t1 lb).length dc) (dynP ls ds fs t1 lb)) := HOD4.out.below hb5
  have hg1 : w.heap.size < w1.heap.size := HS1L.out
  have hg2 : w.heap.size < w2.heap.size := HS2L.out
  have hs5 := HB5.out.size
  clear hb5 HC2 HO4 HOD4 HS4 HS3 HO23 HOD
  by_cases hlt2 : (prsB (dynP ls ds fs t1 lb)).length < (prsB (qbq t1 lb)).length
  · have hlti : ((prsB (dynP ls ds fs t1 lb)).length : Int) < ((prsB (qbq t1 lb)).length : Int) := by omega
    obtain ⟨b, hb⟩ : ∃ b, b = dynB ls ds fs t1 := ⟨_, rfl⟩
    have HSHD : Hid (qhh (dynB ls ds fs t1)) := by
     have h := hlt2
     rw [HDBT.out, HFBT.out] at h
     refine ⟨?_, fun la => ?_⟩
     · rw [HDEQ.out] at h ⊢
       show dynD t1 = blkD t1
       unfold blkD
       rw [if_pos (by rw [qbu (dynD t1) 0 (qbf lb), qbu (fixB t1) 0 (qbf lb)]; exact h)]
     · rw [qbu (dynB ls ds fs t1) la (qbf lb), qbu (fixB (dynB ls ds fs t1).ts) la (qbf lb)]
       exact Nat.le_of_lt h
    have HBO : Hid (b.Ok ∧ qhh b) := by rw [hb]; exact ⟨HDK.out, HSHD.out⟩
    have HBT : Hid (b.ts = t1) := by rw [hb]; rfl
    have HBB : Hid (prsB (dynP ls ds fs t1 lb) = b.bits (qbf lb)) := by rw [hb]; exact HDBT.out
    have HBL : Hid ((b.bits 0).length ≤ 1000000) := by
     have h1 := qli (dynP ls ds fs t1 lb) HDOK.out
     rw [HBB.out] at h1
     rw [qbu b 0 (qbf lb)]
     have := HDL.out; unfold Hid; omega
    clear hb hlt2
    generalize dynP ls ds fs t1 lb = LD at *
    generalize qbq t1 lb = LF at *
    have hne : (Value.slice da LD.length dc).ownBlock ≠ some w.heap.size := fun e => by have := (World.ownsRow.lt HOD5.out _ e).1; omega
    have HPU := qr8 w.heap.size (bs.flatMap (PBk.bits 0)) _ (LD) w5 HS5.out HOD5.out.ps hne (by have := HDL.out; omega) HDOK.out (by have := HP.out.len; have := HP.out.few; omega)
    rw [HBB.out] at HPU
    clear hne
    go_wp2_with fail
    refine HPU.mono ?_
    rintro e w6 ⟨rfl, hS6, hg6⟩
    have HS6 : Hid (qav w6 w.heap.size (bs.flatMap (PBk.bits 0) ++ b.bits (qbf lb))) := hS6
    have HB6 : Hid (Below w.heap.size w w6) := HB5.out.grown hg6 hs5 (fun j hj => by cases hj; exact Nat.le_refl _)
    clear hS6 hg6 HPU
    cases lb with
    | true =>
     have hRm : R - m = 0 := by have := HLB.out; simpa using this.symm
     have HT1T : Hid (t1 = ts.drop k) := by
      unfold Hid
      rw [← HT1E.out, List.take_of_length_le]
      rw [List.length_drop, ← HN.out]; have := HRR.out; omega
     have HBSE : Hid (qb5 (bs ++ [b]) = bs.flatMap (PBk.bits 0) ++ b.bits 1) := qgz b bs
     have HAL := qxn w.heap.size (bs.flatMap (PBk.bits 0) ++ b.bits 1) w6 HS6.out (by rw [List.length_append]; have := HP.out.len; have := HP.out.few; have := HBL.out; rw [qbu b 1 0]; omega)
     rw [← HBSE.out] at HAL
     have HRES : Hid (bs ++ [b] ≠ [] ∧ (∀ c ∈ bs ++ [b], c.Ok ∧ qhh c) ∧ (bs ++ [b]).flatMap PBk.ts = ts ∧ (qb5 (bs ++ [b])).length ≤ 100000000 ∧ bs ++ [b] = qn9 ts) := by
      refine ⟨by simp, fun c hc => ?_, ?_, ?_, ?_⟩
      · rcases List.mem_append.1 hc with h1 | h1
        · exact HP.out.ok c h1
        · rw [List.mem_singleton.1 h1]; exact HBO.out
      · rw [List.flatMap_append, HP.out.ts]
        simp only [List.flatMap_cons, List.flatMap_nil, List.append_nil]
        rw [HBT.out, HT1T.out, List.take_append_drop]
      · rw [HBSE.out, List.length_append, qbu b 1 0]
        have := HP.out.len; have := HP.out.few; have := HBL.out; omega
      · have h2 := HN.out
        have h3 := HRR.out
        have h4 := HMM.out
        exact HP.out.fin HBO.out.2 (by rw [HBT.out, HT1T.out]) (by omega) (by omega)
     clear hRm
     go_wp2_with fail
     refine HAL.mono ?_
     rintro e w7 ⟨rfl, hb7⟩
     have HB7 : Hid (Below w.heap.size w w7) := HB6.out.trans (hb7.mono HB6.out.size)
     clear hb7 HAL
     go_wp2
     go_ret
     exact ⟨bs ++ [b], rfl, HRES.out.1, HRES.out.2.1, HRES.out.2.2.1, HRES.out.2.2.2.1, HRES.out.2.2.2.2, HB7.out⟩
    | false =>
     have hRm : ¬ R - m = 0 := by have := HLB.out; simpa using this.symm
     have hm4k : m = 4000 := by have := HMM.out; omega
     have HPK : Hid (Packed ts (k + m) (bs ++ [b])) := HP.out.snoc HBO.out.1 HBO.out.2 (by rw [HBT.out, HT1E.out]) hm4k HBL.out
     have HSK : Hid (qav w6 w.heap.size ((bs ++ [b]).flatMap (PBk.bits 0))) := by
      unfold Hid
      rw [List.flatMap_append]
      simp only [List.flatMap_cons, List.flatMap_nil, List.append_nil]
      exact HS6.out
     have HTK : Hid (TRO w (.slice a2 (R - m) (tc - m)) (ts.drop (k + m))) := by unfold Hid; rw [← List.drop_drop]; exact HT2.out
     have HNK : Hid (N - (k + m) = R - m) := by have := HRR.out; unfold Hid; omega
     have hkm : k + m < N := by have := HRR.out; omega
     have hlt : R - m < R := by omega
     clear hm4k
     go_wp2
     go_roundw
     case rel => exact ⟨k + m, a2, tc - m, bs ++ [b], by omega, .inl hkm, by rw [HNK.out], by unfold Hid; rw [HNK.out]; exact HTK.out, HPK.out, HSK.out, HB6.out⟩
     case measure => simp only [q10]; exact hlt
  · have hlti : ¬ ((prsB (dynP ls ds fs t1 lb)).length : Int) < ((prsB (qbq t1 lb)).length : Int) := by omega
    obtain ⟨b, hb⟩ : ∃ b, b = fixB t1 := ⟨_, rfl⟩
    have HSHF : Hid (qhh (fixB t1)) := by
     have h := hlt2
     rw [HDBT.out, HFBT.out, HDEQ.out] at h
     refine ⟨?_, fun la => Nat.le_refl _⟩
     show fixB t1 = blkD t1
     unfold blkD
     rw [if_neg (by rw [qbu (dynD t1) 0 (qbf lb), qbu (fixB t1) 0 (qbf lb)]; exact h)]
    have HBO : Hid (b.Ok ∧ qhh b) := by rw [hb]; exact ⟨q23 HK1.out, HSHF.out⟩
    have HBT : Hid (b.ts = t1) := by rw [hb]; rfl
    have HBB : Hid (prsB (qbq t1 lb) = b.bits (qbf lb)) := by rw [hb]; exact HFBT.out
    have HBL : Hid ((b.bits 0).length ≤ 1000000) := by
     have h1 := qli (qbq t1 lb) HFOK.out
     rw [HBB.out] at h1
     rw [qbu b 0 (qbf lb)]
     have := HFL.out; unfold Hid; omega
    clear hb hlt2
    generalize dynP ls ds fs t1 lb = LD at *
    generalize qbq t1 lb = LF at *
    have hne : (Value.slice fa LF.length fc).ownBlock ≠ some w.heap.size := fun e => by have := (World.ownsRow.lt HO5.out _ e).1; omega
    have HPU := qr8 w.heap.size (bs.flatMap (PBk.bits 0)) _ (LF) w5 HS5.out HO5.out.ps hne (by have := HFL.out; omega) HFOK.out (by have := HP.out.len; have := HP.out.few; omega)
    rw [HBB.out] at HPU
    clear hne
    go_wp2_with fail
    refine HPU.mono ?_
    rintro e w6 ⟨rfl, hS6, hg6⟩
    have HS6 : Hid (qav w6 w.heap.size (bs.flatMap (PBk.bits 0) ++ b.bits (qbf lb))) := hS6
    have HB6 : Hid (Below w.heap.size w w6) := HB5.out.grown hg6 hs5 (fun j hj => by cases hj; exact Nat.le_refl _)
    clear hS6 hg6 HPU
    cases lb with
    | true =>
     have hRm : R - m = 0 := by have := HLB.out; simpa using this.symm
     have HT1T : Hid (t1 = ts.drop k) := by
      unfold Hid
      rw [← HT1E.out, List.take_of_length_le]
      rw [List.length_drop, ← HN.out]; have := HRR.out; omega
     have HBSE : Hid (qb5 (bs ++ [b]) = bs.flatMap (PBk.bits 0) ++ b.bits 1) := qgz b bs
     have HAL := qxn w.heap.size (bs.flatMap (PBk.bits 0) ++ b.bits 1) w6 HS6.out (by rw [List.length_append]; have := HP.out.len; have := HP.out.few; have := HBL.out; rw [qbu b 1 0]; omega)
     rw [← HBSE.out] at HAL
     have HRES : Hid (bs ++ [b] ≠ [] ∧ (∀ c ∈ bs ++ [b], c.Ok ∧ qhh c) ∧ (bs ++ [b]).flatMap PBk.ts = ts ∧ (qb5 (bs ++ [b])).length ≤ 100000000 ∧ bs ++ [b] = qn9 ts) := by
      refine ⟨by simp, fun c hc => ?_, ?_, ?_, ?_⟩
      · rcases List.mem_append.1 hc with h1 | h1
        · exact HP.out.ok c h1
        · rw [List.mem_singleton.1 h1]; exact HBO.out
      · rw [List.flatMap_append, HP.out.ts]
        simp only [List.flatMap_cons, List.flatMap_nil, List.append_nil]
        rw [HBT.out, HT1T.out, List.take_append_drop]
      · rw [HBSE.out, List.length_append, qbu b 1 0]
        have := HP.out.len; have := HP.out.few; have := HBL.out; omega
      · have h2 := HN.out
        have h3 := HRR.out
        have h4 := HMM.out
        exact HP.out.fin HBO.out.2 (by rw [HBT.out, HT1T.out]) (by omega) (by omega)
     clear hRm
     go_wp2_with fail
     refine HAL.mono ?_
     rintro e w7 ⟨rfl, hb7⟩
     have HB7 : Hid (Below w.heap.size w w7) := HB6.out.trans (hb7.mono HB6.out.size)
     clear hb7 HAL
     go_wp2
     go_ret
     exact ⟨bs ++ [b], rfl, HRES.out.1, HRES.out.2.1, HRES.out.2.2.1, HRES.out.2.2.2.1, HRES.out.2.2.2.2, HB7.out⟩
    | false =>
     have hRm : ¬ R - m = 0 := by have := HLB.out; simpa using this.symm
     have hm4k : m = 4000 := by have := HMM.out; omega
     have HPK : Hid (Packed ts (k + m) (bs ++ [b])) := HP.out.snoc HBO.out.1 HBO.out.2 (by rw [HBT.out, HT1E.out]) hm4k HBL.out
     have HSK : Hid (qav w6 w.heap.size ((bs ++ [b]).flatMap (PBk.bits 0))) := by
      unfold Hid
      rw [List.flatMap_append]
      simp only [List.flatMap_cons, List.flatMap_nil, List.append_nil]
      exact HS6.out
     have HTK : Hid (TRO w (.slice a2 (R - m) (tc - m)) (ts.drop (k + m))) := by unfold Hid; rw [← List.drop_drop]; exact HT2.out
     have HNK : Hid (N - (k + m) = R - m) := by have := HRR.out; unfold Hid; omega
     have hkm : k + m < N := by have := HRR.out; omega
     have hlt : R - m < R := by omega
     clear hm4k
     go_wp2
     go_roundw
     case rel => exact ⟨k + m, a2, tc - m, bs ++ [b], by omega, .inl hkm, by rw [HNK.out], by unfold Hid; rw [HNK.out]; exact HTK.out, HPK.out, HSK.out, HB6.out⟩
     case measure => simp only [q10]; exact hlt
end Go.Proofs.YthkppipdflmekaaGreat
