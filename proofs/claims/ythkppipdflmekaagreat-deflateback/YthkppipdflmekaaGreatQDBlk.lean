/- deflate's fixedBlock, dynamicBlock. -/
import Derived.Test.YthkppipdflmekaaGreatQDStp
import Derived.Test.YthkppipdflmekaaGreatQDCat
import Derived.Test.YthkppipdflmekaaGreatQDCnt
set_option maxRecDepth 100000
set_option maxHeartbeats 4000000
namespace Go.Proofs.YthkppipdflmekaaGreat
open Go.RowKit
set_option linter.unusedVariables false
theorem q3j {ls : List Nat} (h : OkL ls) (s : Nat) : cdOf ls s < 32768 := by
 unfold cdOf
 by_cases h0 : 0 < ln ls s
 · rw [if_pos h0]
   have hs : s < ls.length := by
    rcases Nat.lt_or_ge s ls.length with g | g
    · exact g
    · unfold ln at h0; rw [List.getD_eq_getElem?_getD, List.getElem?_eq_none g] at h0; simp at h0
   have h1 := qw7 ls h.all h.fit s hs h0
   have h2 := h.all.at s
   have : 2 ^ ln ls s ≤ 2 ^ 15 := Nat.pow_le_pow_right (by decide) h2
   omega
 · rw [if_neg h0]; decide
theorem qk8 {t : Tok} (h : t.l = 0) : sgT t = ⟨t.b, prt0, false, 0, prt0⟩ := by unfold sgT; rw [if_pos h]
theorem qig {t : Tok} (h : ¬ t.l = 0) : sgT t = ⟨257 + noF t.l.toNat false, szP t.l.toNat false, true, noF t.d.toNat true, szP t.d.toNat true⟩ := by unfold sgT; rw [if_neg h]
theorem q13 (t : Tok) : (sgT t).sym = symT t := by
 unfold symT
 by_cases h : t.l = 0
 · rw [qk8 h, if_pos h]
 · rw [qig h, if_neg h]
theorem q14 {t : Tok} (h : ¬ t.l = 0) : (sgT t).rep = true ∧ (sgT t).far = farT t := by rw [qig h]; exact ⟨rfl, rfl⟩
theorem qt5 (ls ds : List Nat) (t : Tok) : prsB (qfe ls ds (sgT t)) = encT ls ds t := by
 by_cases h : t.l = 0
 · rw [qk8 h]
   unfold qfe encT symT
   rw [if_neg (by simp), if_pos h, if_pos h]
   simp [prsB, prB, prt0, qau, lowB]
 · rw [qig h]
   unfold qfe encT symT farT
   rw [if_pos rfl, if_neg h, if_neg h]
   simp [prsB, prB, szP, szB, qau]
theorem qn6 (ls ds : List Nat) : prsB (qfe ls ds qf0) = qau ls 256 := by
 unfold qfe qf0
 rw [if_neg (by simp)]
 simp [prsB, prB, prt0, qau, lowB]
theorem qt4 (ls ds : List Nat) (a b : List Sgn) : qaj ls ds (a ++ b) = qaj ls ds a ++ qaj ls ds b := by simp [qaj]
theorem qji (ls ds : List Nat) : ∀ ts : List Tok, prsB (qaj ls ds (ts.map sgT)) = encs ls ds ts
 | [] => rfl
 | t :: ts => by
  have ih := qji ls ds ts
  rw [qgf, ← ih, ← qt5 ls ds t, ← qc0]
  rfl
theorem qn4 (ls ds : List Nat) (ts : List Tok) : prsB (qaj ls ds (qah ts)) = encs ls ds ts ++ qau ls 256 := by
 unfold qah
 rw [qt4, qc0, qji]
 congr 1
 have : qaj ls ds [qf0] = qfe ls ds qf0 := by simp [qaj]
 rw [this, qn6]
theorem qno (last : Bool) (kind : Nat) : prsB (qcr last kind) = lowB (qbf last) 1 ++ lowB kind 2 := by simp [qcr, prsB, prB]
theorem qut (fs : List Nat) (s : Stp) : prsB (stpP fs s) = encS fs s := by simp [stpP, prsB, prB, encS, qau]
theorem qsv (fs : List Nat) (zs : List Int) : prsB (qbv fs (qca zs)) = encI fs zs zs.length 0 := by
 unfold encI
 rw [qgk]
 generalize qca zs = l
 induction l with
 | nil => rfl
 | cons s l ih =>
  rw [List.flatMap_cons, ← ih, ← qut, ← qc0]
  rfl
def tolP (l : List Nat) : List Prt := l.map fun x => ⟨x, 3, false⟩
theorem qmn : ∀ l : List Nat, prsB (tolP l) = qky l
 | [] => rfl
 | x :: l => by
  have ih := qmn l
  have e : tolP (x :: l) = [⟨x, 3, false⟩] ++ tolP l := rfl
  rw [e, qc0, ih]
  simp [prsB, prB, qky]
def qd5 (ls ds fs : List Nat) (last : Bool) : List Prt := qcr last 2 ++ [⟨ls.length - 257, 5, false⟩, ⟨ds.length - 1, 5, false⟩, ⟨(qbc (tldL fs) 4).length - 4, 4, false⟩]
def dynP (ls ds fs : List Nat) (ts : List Tok) (last : Bool) : List Prt := ((qd5 ls ds fs last ++ tolP (qbc (tldL fs) 4)) ++ qbv fs (qca (zL (ls ++ ds)))) ++ qaj ls ds (qah ts)
def dynB (ls ds fs : List Nat) (ts : List Tok) : PBk := ⟨2, fs, ls, ds, (qbc (tldL fs) 4).length, ts⟩
theorem qwz (ls ds fs : List Nat) (ts : List Tok) (last : Bool) : prsB (dynP ls ds fs ts last) = (dynB ls ds fs ts).bits (qbf last) := by
 have et : (tldL fs).take (qbc (tldL fs) 4).length = qbc (tldL fs) 4 := by
  rw [qbk]; rfl
 have e1 : PBk.head (dynB ls ds fs ts) = encH fs ls ds (qbc (tldL fs) 4).length := by
  unfold PBk.head dynB; rw [if_neg (show ¬ (2 : Nat) = 1 by decide)]
 unfold PBk.bits
 rw [e1]
 unfold encH
 have e2 : (ordL.map fun t => fs.getD t 0) = tldL fs := rfl
 rw [e2, et]
 have hz : (zL (ls ++ ds)).length = (ls ++ ds).length := qa9 _
 have e3 := qsv fs (zL (ls ++ ds))
 rw [hz] at e3
 unfold dynP qd5
 rw [qc0, qc0, qc0, qc0, qno, qmn, e3, qn4]
 simp [prsB, prB, dynB, List.append_assoc]
def fixB (ts : List Tok) : PBk := ⟨1, [], fixL, fixD, 0, ts⟩
theorem qwl (ts : List Tok) (last : Bool) : prsB (qbq ts last) = (fixB ts).bits (qbf last) := by
 have e1 : PBk.head (fixB ts) = [] := by unfold PBk.head fixB; rw [if_pos rfl]
 unfold PBk.bits
 rw [e1]
 unfold qbq
 rw [qc0, qno, qn4]
 simp [fixB, List.append_assoc]
/-! What a Sink takes as it is. -/
def PsOk (l : List Prt) : Prop := ∀ p ∈ l, qg3 p
theorem PsOk.app {a b : List Prt} (h : PsOk a) (k : PsOk b) : PsOk (a ++ b) := fun p hp => (List.mem_append.1 hp).elim (h p) (k p)
theorem qlh : qg3 prt0 := ⟨by decide, by decide⟩
theorem q0q {x : Nat} {far : Bool} (h : x ≤ 32768) : qg3 (szP x far) := by
 have := (qd8 far (noF x far)).2
 exact ⟨by show x - _ < _; omega, by show (szF (noF x far) far).2 ≤ 32; omega⟩
theorem qrm (last : Bool) (kind : Nat) (hk : kind < 4) : PsOk (qcr last kind) := fun p hp => by
 simp only [qcr, List.mem_cons, List.not_mem_nil, or_false] at hp
 have hf : qbf last ≤ 1 := by unfold qbf; cases last <;> simp
 rcases hp with rfl | rfl
 · exact ⟨by show qbf last < _; omega, by show 1 ≤ 32; decide⟩
 · exact ⟨by show kind < _; omega, by show 2 ≤ 32; decide⟩
theorem qma {ls : List Nat} (h : OkL ls) (s : Nat) : qg3 ⟨cdOf ls s, ln ls s, true⟩ := by
 have := q3j h s
 have := h.all.at s
 exact ⟨by show cdOf ls s < _; omega, by show ln ls s ≤ 32; omega⟩
theorem q4e {t : Tok} (h : qbr t = true) : qg3 (sgT t).more ∧ qg3 (sgT t).fmore := by
 by_cases h0 : t.l = 0
 · rw [qk8 h0]; exact ⟨qlh, qlh⟩
 · obtain ⟨_, h3, h258, h1, h32⟩ := qci h0 h
   rw [qig h0]
   exact ⟨q0q (by omega), q0q (by omega)⟩
theorem qn5 {ls ds : List Nat} (hl : OkL ls) (hd : OkL ds) {ts : List Tok} (hk : TkIn ts) : PsOk (qaj ls ds (qah ts)) := fun p hp => by
 obtain ⟨s, hs, hp⟩ := List.mem_flatMap.1 hp
 have hso : qg3 s.more ∧ qg3 s.fmore := by
  rcases List.mem_append.1 hs with h | h
  · obtain ⟨t, ht, rfl⟩ := List.mem_map.1 h
    exact q4e (hk t ht).1
  · rw [List.mem_singleton.1 h]; exact ⟨qlh, qlh⟩
 unfold qfe at hp
 split at hp
 · simp only [List.mem_cons, List.not_mem_nil, or_false] at hp
   rcases hp with rfl | rfl | rfl | rfl
   · exact qma hl _
   · exact hso.1
   · exact qma hd _
   · exact hso.2
 · simp only [List.mem_cons, List.not_mem_nil, or_false] at hp
   rcases hp with rfl | rfl
   · exact qma hl _
   · exact hso.1
theorem ql1 : OkL fixL := ⟨by intro x hx; revert x; decide +kernel, by decide +kernel, by decide +kernel⟩
theorem ql3 : OkL fixD := ⟨by intro x hx; revert x; decide +kernel, by decide +kernel, by decide +kernel⟩
theorem qwk {ts : List Tok} (hk : TkIn ts) (last : Bool) : PsOk (qbq ts last) := (qrm last 1 (by decide)).app (qn5 ql1 ql3 hk)
theorem q23 {ts : List Tok} (hk : TkIn ts) : (fixB ts).Ok :=
 ⟨.inl ⟨rfl, rfl, rfl⟩, ql1, ql3, by show 256 < fixL.length; decide +kernel, ql0 256 (by decide), fun t ht => qtt (hk t ht).1 (hk t ht).2⟩
theorem qqn {rs : List Nat} (h15 : ∀ x ∈ rs, x ≤ 15) : StIn (qca (zL rs)) := fun s hs => by
 rw [← qgk] at hs
 have key : ∀ (k i : Nat), ∀ s ∈ qb6 (zL rs) k i, ∃ y m : Nat, s.sym = (y : Int) ∧ s.more = (m : Int) ∧ y < 19 ∧ m < 128 := by
  intro k
  induction k with
  | zero => intro i s hs; cases hs
  | succ k ih =>
   intro i s hs
   rw [qb6] at hs
   split at hs
   · rename_i hi
     rw [qa9] at hi
     rcases List.mem_cons.1 hs with e | e
     · obtain ⟨sym, more, e1, e2, h1, h2, _⟩ := qqo rs h15 i hi
       refine ⟨sym, more, by rw [e]; exact e1, by rw [e]; exact e2, h1, ?_⟩
       have : (tmF sym).2 ≤ 7 := by unfold tmF; split; decide; split; decide; split <;> decide
       have : 2 ^ (tmF sym).2 ≤ 2 ^ 7 := Nat.pow_le_pow_right (by decide) this
       omega
     · exact ih _ s e
   · cases hs
 exact key _ _ s hs
theorem qyk {fs : List Nat} (hf : OkL fs) {st : List Stp} (hs : StIn st) : PsOk (qbv fs st) := fun p hp => by
 obtain ⟨s, hs', hp⟩ := List.mem_flatMap.1 hp
 obtain ⟨y, m, hy, hm, hy19, hm128⟩ := hs s hs'
 simp only [stpP, List.mem_cons, List.not_mem_nil, or_false] at hp
 rcases hp with rfl | rfl
 · exact qma hf _
 · refine ⟨by show s.more.toNat < _; omega, ?_⟩
   show (tmF s.sym.toNat).2 ≤ 32
   unfold tmF; split; decide; split; decide; split <;> decide
theorem q1k {l : List Nat} (h : ∀ x ∈ l, x ≤ 7) : PsOk (tolP l) := fun p hp => by
 obtain ⟨x, hx, rfl⟩ := List.mem_map.1 hp
 have := h x hx
 exact ⟨by show x < _; omega, by show 3 ≤ 32; decide⟩
set_option linter.unusedSimpArgs false
theorem qu4 {ts : List Tok} (hk : TkIn ts) : ∀ s ∈ qah ts, s.sym < 286 ∧ (s.rep = true → s.far < 30) := fun s hs => by
 rcases List.mem_append.1 hs with h | h
 · obtain ⟨t, ht, rfl⟩ := List.mem_map.1 h
   obtain ⟨h1, h2⟩ := hk t ht
   by_cases h0 : t.l = 0
   · rw [qk8 h0]; exact ⟨by show t.b < 286; omega, fun e => (by cases e)⟩
   · obtain ⟨_, h3, h258, hd1, h32⟩ := qci h0 h1
     have n1 := (qhr (x := t.l.toNat) (by omega) (by omega)).1
     have m1 := (qpb (x := t.d.toNat) (by omega) (by omega)).1
     rw [qig h0]
     exact ⟨by show 257 + noF t.l.toNat false < 286; omega, fun _ => m1⟩
 · rw [List.mem_singleton.1 h]; exact ⟨by decide, fun e => (by cases e)⟩
theorem qds (ts : List Tok) : (qah ts).length = ts.length + 1 := by simp [qah]
theorem qjs (v : Value) (ts : List Tok) (last : Bool) (w : World) (hS : SgS w v (qah ts)) (hk : TkIn ts) (hl : ts.length ≤ 4000) :
    Calls Tryz.prog 23 #[v, .bool last] w fun e w' => ∃ v', e = .returned v' ∧ PO w' w.heap.size v' (qbq ts last) ∧ Below w.heap.size w w' := by
 have HSG : Hid (SgS w v (qah ts)) := hS
 have HLN := qiz w
 have l1 : fixL.length = 288 := by decide +kernel
 have l2 : fixD.length = 32 := by decide +kernel
 have HBD : Hid (∀ (W : World) (vs vf : Value), SgS W v (qah ts) → IQ W vs (zL fixL) → IQ W vf (zL fixD) → Calls Tryz.prog 49 #[v, vs, vf] W fun e w' => ∃ v', e = .returned v' ∧ PO w' W.heap.size v' (qaj fixL fixD (qah ts)) ∧ Below W.heap.size W w') := fun W vs vf h1 h2 h3 => by
  have := qnv v vs vf (qah ts) (zL fixL) (zL fixD) W h1 h2 h3 ql1.err ql3.err (by rw [qds]; omega) (fun s hs => by
   have := qu4 hk s hs
   rw [qa9, qa9, l1, l2]
   exact ⟨by omega, fun h => by have := this.2 h; omega⟩)
  rw [qjx, qjx] at this
  exact this
 have HHD : Hid (∀ W, Calls Tryz.prog 48 #[.bool last, .int .i64 1] W fun e w' => ∃ a c, e = .returned (.slice a 2 c) ∧ PO w' W.heap.size (.slice a 2 c) (qcr last 1) ∧ Below W.heap.size W w') := fun W => qrl last 1 W (by decide)
 have HLE : Hid ((qcr last 1).length + (qaj fixL fixD (qah ts)).length ≤ 1000000) := by
  have h1 := qc6 fixL fixD (qah ts)
  rw [qds] at h1
  have h2 : (qcr last 1).length = 2 := rfl
  unfold Hid; omega
 have HFP : Hid (qbq ts last = qcr last 1 ++ qaj fixL fixD (qah ts)) := rfl
 obtain ⟨a, cap, rfl, -, -⟩ := hS
 clear hk
 go_enter Tryz.func23, Tryz.ntmps23
 go_wp2_with fail
 refine HLN.mono ?_
 rintro e w1 ⟨vl, vd, rfl, ho1, ho2, hb1⟩
 have hq1 : IQ w1 vl (zL fixL) := qra ho1 (by decide)
 have hq2 : IQ w1 vd (zL fixD) := qra ho2 (by decide)
 have HQ1 : Hid (IQ w1 vl (zL fixL)) := hq1
 have HQ2 : Hid (IQ w1 vd (zL fixD)) := hq2
 obtain ⟨gl, ol, cl, rfl, -, -⟩ := hq1
 obtain ⟨gd, od, cd, rfl, -, -⟩ := hq2
 have HB1 : Hid (Below w.heap.size w w1) := hb1
 clear ho1 ho2 hb1 HLN
 go_wp2_with fail
 refine (HHD.out w1).mono ?_
 rintro e w2 ⟨ha, hc, rfl, ho, hb2⟩
 have HO2 : Hid (PO w2 w1.heap.size (.slice ha 2 hc) (qcr last 1)) := ho
 have HB2 : Hid (Below w1.heap.size w1 w2) := hb2
 have HBC := HBD.out w2 _ _ ((HSG.out.below HB1.out).below (hb2.mono (Nat.le_refl _))) (HQ1.out.below hb2) (HQ2.out.below hb2)
 have hs1 := HB1.out.size
 have hs2 := hb2.size
 clear ho hb2
 go_wp2_with fail
 refine HBC.mono ?_
 rintro e w3 ⟨vb, rfl, ho3, hb3⟩
 have HO3 : Hid (PO w3 w2.heap.size vb (qaj fixL fixD (qah ts))) := ho3
 obtain ⟨ba, bc, rfl⟩ := ho3.shape
 have HO23 : Hid (PO w3 w.heap.size (.slice ha 2 hc) (qcr last 1)) := (HO2.out.below hb3).base hs1
 have HB3 : Hid (Below w.heap.size w w3) := HB1.out.trans ((HB2.out.trans (hb3.mono hs2)).mono hs1)
 have hs3 := HB3.out.size
 clear ho3 hb3 HBC
 go_wp2_with (at_builtin; refine qer rfl _ _ rfl w.heap.size w2.heap.size (.slice ha 2 hc) (.slice ba (qaj fixL fixD (qah ts)).length bc) (qcr last 1) (qaj fixL fixD (qah ts)) rfl rfl HO23.out HO3.out HLE.out hs3 ?_; intro a' c' w4 hO4 hg4)
 have HO4 : Hid (PO w4 w.heap.size (.slice a' ((qcr last 1).length + (qaj fixL fixD (qah ts)).length) c') (qbq ts last)) := by unfold Hid; rw [HFP.out]; exact hO4
 have HB4 : Hid (Below w.heap.size w w4) := HB3.out.grown hg4 hs3 (fun r hr => (World.ownsRow.lt HO23.out r hr).1)
 clear hO4 hg4
 go_wp2
 go_ret
 exact ⟨_, rfl, HO4.out, HB4.out⟩
def DX (W : World) (v : Value) (ts : List Tok) (v1 : Value) (ls : List Nat) (v2 : Value) (ds : List Nat) (v4 : Value) (st : List Stp) (vf : Value) (fs : List Nat) (vt : Value) (td : List Nat) : Prop :=
 SgS W v (qah ts) ∧ IQ W v1 (zL ls) ∧ IQ W v2 (zL ds) ∧ StS W v4 st ∧ IQ W vf (zL fs) ∧ IQ W vt (zL td)
theorem DX.below {W W' : World} {v : Value} {ts : List Tok} {v1 : Value} {ls : List Nat} {v2 : Value} {ds : List Nat} {v4 : Value} {st : List Stp} {vf : Value} {fs : List Nat} {vt : Value} {td : List Nat}
    (h : DX W v ts v1 ls v2 ds v4 st vf fs vt td) (hb : Below W.heap.size W W') : DX W' v ts v1 ls v2 ds v4 st vf fs vt td := by
 obtain ⟨h1, h2, h3, h4, h5, h6⟩ := h
 exact ⟨h1.below hb, h2.below hb, h3.below hb, h4.below hb, h5.below hb, h6.below hb⟩
theorem PO.made1 (w : World) (p : Prt) : PO (w.alloc (.cells #[.int .u32 (p.b : Int), .int .i64 (p.c : Int), .bool p.code] 119)) w.heap.size (.slice (some ⟨w.heap.size, 0, none⟩) 1 1) [p] :=
 ⟨rfl, .inr ⟨w.heap.size, 1, #[.int .u32 (p.b : Int), .int .i64 (p.c : Int), .bool p.code], rfl, Nat.le_refl _, heap_alloc_new w _, Nat.le_refl _, by decide, rfl, rfl⟩⟩
theorem PO.made3 (w : World) (p q r : Prt) : PO (w.alloc (.cells #[.int .u32 (p.b : Int), .int .i64 (p.c : Int), .bool p.code, .int .u32 (q.b : Int), .int .i64 (q.c : Int), .bool q.code, .int .u32 (r.b : Int), .int .i64 (r.c : Int), .bool r.code] 119)) w.heap.size (.slice (some ⟨w.heap.size, 0, none⟩) 3 3) [p, q, r] :=
 ⟨rfl, .inr ⟨w.heap.size, 3, #[.int .u32 (p.b : Int), .int .i64 (p.c : Int), .bool p.code, .int .u32 (q.b : Int), .int .i64 (q.c : Int), .bool q.code, .int .u32 (r.b : Int), .int .i64 (r.c : Int), .bool r.code], rfl, Nat.le_refl _, heap_alloc_new w _, Nat.le_refl _, by decide, rfl, rfl⟩⟩
theorem q4o {w : World} {B n : Nat} {v : Value} {ns : List Nat} (h : w.ownsRow B 3 1 v n (nch ns)) (hn : 0 < n) (hl : ns.length = n) : IQ w v (zL ns) := by
 rcases h.2 with ⟨rfl, h0⟩ | ⟨g, cap, cur, rfl, _⟩
 · omega
 · refine ⟨g, 0, cap, by rw [qa9, hl], (World.ownsRow.lt h g rfl).2, fun i hi => ?_⟩
   rw [qa9] at hi
   rw [Nat.zero_add, qe3 h i hi, qgi]
theorem IQ.cellAt {w : World} {g o n cap : Nat} {ns : List Nat} (h : IQ w (.slice (some ⟨g, o, none⟩) n cap) (zL ns)) (i : Nat) (hi : i < ns.length) : w.cell? ⟨g, o + i, none⟩ = some (.int .i64 (ns.getD i 0 : Int)) ∧ g < w.heap.size := by
 obtain ⟨g', o', cap', e, hg, hc⟩ := h
 injection e with e1 e2 e3
 injection e1 with e1
 injection e1 with e4 e5
 subst e4 e5
 exact ⟨by rw [hc i (by rw [qa9]; exact hi), qgi], hg⟩
theorem qhg (v : Value) (ts : List Tok) (last : Bool) (w : World) (hS : SgS w v (qah ts)) (hk : TkIn ts) (hl : ts.length ≤ 4000) :
    Calls Tryz.prog 24 #[v, .bool last] w fun e w' => ∃ v' ls ds fs, e = .returned v' ∧ PO w' w.heap.size v' (dynP ls ds fs ts last) ∧
     LnOk (symF (qah ts)) ls 257 286 15 (fun i => ∃ s ∈ qah ts, s.sym = i) ∧ LnOk (farF (qah ts)) ds 1 30 15 (fun i => ∃ s ∈ qah ts, s.rep = true ∧ s.far = i) ∧ LnOk (fstF (qca (zL (ls ++ ds)))) fs 19 19 7 (fun i => ∃ s ∈ qca (zL (ls ++ ds)), s.sym.toNat = i) ∧ Below w.heap.size w w' := by
 have HSG : Hid (SgS w v (qah ts)) := hS
 have HIN : Hid (∀ s ∈ qah ts, s.sym < 286 ∧ (s.rep = true → s.far < 30)) := qu4 hk
 have HSL : Hid ((qah ts).length ≤ 4001) := by unfold Hid; rw [qds]; omega
 have HLO := qls v (qah ts) w hS (by have := HSL.out; omega) (qu4 hk)
 obtain ⟨a, cap, rfl, -, -⟩ := hS
 obtain ⟨sn, hsn⟩ : ∃ sn, sn = (qah ts).length := ⟨_, rfl⟩
 rw [← hsn] at HSG HLO ⊢
 clear hsn hk
 go_enter Tryz.func24, Tryz.ntmps24
 go_wp2_with fail
 refine HLO.mono ?_
 rintro e w1 ⟨g1, g2, ls, ds, rfl, hk1, hk2, hq1, hq2, hb1⟩
 have HK1 : Hid (LnOk (symF (qah ts)) ls 257 286 15 (fun i => ∃ s ∈ qah ts, s.sym = i)) := hk1
 have HK2 : Hid (LnOk (farF (qah ts)) ds 1 30 15 (fun i => ∃ s ∈ qah ts, s.rep = true ∧ s.far = i)) := hk2
 have HB1 : Hid (Below w.heap.size w w1) := hb1
 have HSG1 : Hid (SgS w1 (.slice a sn cap) (qah ts)) := HSG.out.below hb1
 have HQ1 : Hid (IQ w1 (.slice (some ⟨g1, 0, none⟩) ls.length 286) (zL ls)) := hq1
 have HQ2 : Hid (IQ w1 (.slice (some ⟨g2, 0, none⟩) ds.length 30) (zL ds)) := hq2
 have ll1 := hk1.lo
 have ll2 := hk1.hi
 have dl1 := hk2.lo
 have dl2 := hk2.hi
 obtain ⟨nl, hnl⟩ : ∃ nl, nl = ls.length := ⟨_, rfl⟩
 obtain ⟨nd, hnd⟩ : ∃ nd, nd = ds.length := ⟨_, rfl⟩
 have HNL : Hid (nl = ls.length) := hnl
 have HND : Hid (nd = ds.length) := hnd
 rw [← hnl] at HQ1 ll1 ll2 ⊢
 rw [← hnd] at HQ2 dl1 dl2 ⊢
 obtain ⟨W2, hW2⟩ : ∃ W2, W2 = w1.alloc (.cells #[.slice (some ⟨g1, 0, none⟩) nl 286, .slice (some ⟨g2, 0, none⟩) nd 30] 39) := ⟨_, rfl⟩
 have hb2 : Below w1.heap.size w1 W2 := by rw [hW2]; exact (Below.refl _ _).alloc (Nat.le_refl _) _
 have hn2 : W2.heap[w1.heap.size]? = some (.cells #[.slice (some ⟨g1, 0, none⟩) nl 286, .slice (some ⟨g2, 0, none⟩) nd 30] 39 (0, 0)) := by rw [hW2]; exact heap_alloc_new w1 _
 have hCC := q3g w1.heap.size (fun i => if i = 0 then .slice (some ⟨g1, 0, none⟩) nl 286 else .slice (some ⟨g2, 0, none⟩) nd 30) (twoL ls ds) W2 (Array.getElem?_eq_some_iff.1 hn2).1
  (fun i hi => by rw [cell_of_row _ _ _ _ _ _ hn2]; rcases (by omega : i = 0 ∨ i = 1) with rfl | rfl <;> rfl)
  (fun i hi => by
   rcases (by omega : i = 0 ∨ i = 1) with rfl | rfl
   · exact HQ1.out.below hb2
   · exact HQ2.out.below hb2)
  (fun i hi => by
   rcases (by omega : i = 0 ∨ i = 1) with rfl | rfl
   · show 1 ≤ ls.length ∧ ls.length ≤ 300; omega
   · show 1 ≤ ds.length ∧ ds.length ≤ 300; omega)
 have hcat : catN (twoL ls ds) 2 = ls ++ ds := by simp [catN, twoL]
 rw [hcat] at hCC
 have HW2 : Hid (w1.alloc (.cells #[.slice (some ⟨g1, 0, none⟩) nl 286, .slice (some ⟨g2, 0, none⟩) nd 30] 39) = W2) := hW2.symm
 have HB2 : Hid (Below w1.heap.size w1 W2) := hb2
 have hs1 := hb1.size
 clear HLO hb1 hq1 hq2 hk1 hk2 hnl hnd hW2 hn2 hcat HSG hb2
 go_wp2_with fail
 rw [show w1.alloc (.cells #[.slice (some ⟨g1, 0, none⟩) nl 286, .slice (some ⟨g2, 0, none⟩) nd 30] 39) = W2 from HW2.out]
 refine hCC.mono ?_
 rintro e w3 ⟨v3, rfl, ho3, hb3⟩
 have HB3 : Hid (Below w1.heap.size w1 w3) := HB2.out.trans (hb3.mono HB2.out.size)
 have hcl : (ls ++ ds).length = nl + nd := by rw [List.length_append, HNL.out, HND.out]
 have HCL : Hid ((ls ++ ds).length = nl + nd) := hcl
 rw [hcl] at ho3
 obtain ⟨g3, c3, rfl, hc3, hc3m⟩ : ∃ g3 c3, v3 = .slice (some ⟨g3, 0, none⟩) (nl + nd) c3 ∧ nl + nd ≤ c3 ∧ c3 ≤ 9223372036854775807 := by
  rcases ho3.2 with ⟨_, h0⟩ | ⟨g, c, cur, h1, _, _, h2, h3, _⟩
  · omega
  · unfold maxLen at h3; exact ⟨g, c, h1, h2, by omega⟩
 have hzl : (zL (ls ++ ds)).length = nl + nd := by rw [qa9, hcl]
 have hST := qmr g3 0 c3 (zL (ls ++ ds)) w3 (World.ownsRow.lt ho3 g3 rfl).2 (fun i hi => by rw [Nat.zero_add, qe3 ho3 i (by rw [qa9] at hi; exact hi), qgi]) (by omega) hc3m (by omega)
 rw [hzl] at hST
 clear hCC hb3 ho3 HW2 hcl hzl
 go_wp2_with fail
 refine hST.mono ?_
 rintro e w4 ⟨v4, rfl, ho4, hb4⟩
 have HB4 : Hid (Below w1.heap.size w1 w4) := HB3.out.trans (hb4.mono HB3.out.size)
 have hst4 : StS w4 v4 (qca (zL (ls ++ ds))) := StS.own ho4
 have h15 : ∀ y ∈ ls ++ ds, y ≤ 15 := fun y hy => (List.mem_append.1 hy).elim (HK1.out.le y) (HK2.out.le y)
 have hin : StIn (qca (zL (ls ++ ds))) := qqn h15
 have hsl : (qca (zL (ls ++ ds))).length ≤ 1000 := by
  obtain ⟨f1, f2, f3⟩ := qie (zL (ls ++ ds)) (zL (ls ++ ds)).length
  have h2 := HCL.out
  have h3 : (zL (ls ++ ds)).length = nl + nd := by rw [qa9]; exact h2
  unfold qca; omega
 have hFI := qhf v4 _ w4 hst4 hsl hin
 have HIN4 : Hid (StIn (qca (zL (ls ++ ds)))) := hin
 have HSL4 : Hid ((qca (zL (ls ++ ds))).length ≤ 1000) := hsl
 obtain ⟨st, hst⟩ : ∃ st, st = qca (zL (ls ++ ds)) := ⟨_, rfl⟩
 have HSTE : Hid (qca (zL (ls ++ ds)) = st) := hst.symm
 rw [← hst] at hst4 hFI HIN4 HSL4
 have HST4 : Hid (StS w4 v4 st) := hst4
 obtain ⟨a4, c4, rfl, -, -⟩ := hst4
 clear hST hb4 ho4 hin hsl h15 hst
 go_wp2_with fail
 refine hFI.mono ?_
 rintro e w5 ⟨g5, fs, rfl, hfl, hfk, ho5, hb5⟩
 have HFK : Hid (LnOk (fstF st) fs 19 19 7 (fun i => ∃ s ∈ st, s.sym.toNat = i)) := hfk
 have HFL : Hid (fs.length = 19) := hfl
 have HB5 : Hid (Below w1.heap.size w1 w5) := HB4.out.trans (hb5.mono HB4.out.size)
 have HQ5 : Hid (IQ w5 (.slice (some ⟨g5, 0, none⟩) 19 19) (zL fs)) := q4o ho5 (by decide) hfl
 have HST5 : Hid (StS w5 (.slice a4 st.length c4) st) := HST4.out.below hb5
 have hTF := qjo g5 w4.heap.size fs w5 ho5 hfl
 clear hFI hfl hfk ho5 hb5
 go_wp2_with fail
 refine hTF.mono ?_
 rintro e w6 ⟨p6, c6, rfl, hq6, hb6⟩
 have HB6 : Hid (Below w1.heap.size w1 w6) := HB5.out.trans (hb6.mono HB5.out.size)
 have ht7 : ∀ y ∈ qbc (tldL fs) 4, y ≤ 7 := fun y hy => by
  obtain ⟨t, ht, rfl⟩ := List.mem_map.1 (List.mem_of_mem_take hy)
  by_cases htl : t < fs.length
  · exact HFK.out.le _ (by rw [List.getD_eq_getElem?_getD, List.getElem?_eq_getElem htl]; exact List.getElem_mem htl)
  · rw [List.getD_eq_getElem?_getD, List.getElem?_eq_none (by omega)]; exact Nat.zero_le _
 have htl4 : 4 ≤ (qbc (tldL fs) 4).length := by rw [qbk]; exact ql8 _ _ _ (by rw [qcm]; omega)
 have htl19 : (qbc (tldL fs) 4).length ≤ 19 := by
  have := qeo (zL (tldL fs)) 4 (tldL fs).length
  rw [qbk]; rw [qcm] at this ⊢; exact this
 have HDY : Hid (dynP ls ds fs ts last = ((qd5 ls ds fs last ++ tolP (qbc (tldL fs) 4)) ++ qbv fs st) ++ qaj ls ds (qah ts)) := by unfold Hid dynP; rw [HSTE.out]
 have HDH : Hid (qd5 ls ds fs last = qcr last 2 ++ [⟨nl - 257, 5, false⟩, ⟨nd - 1, 5, false⟩, ⟨(qbc (tldL fs) 4).length - 4, 4, false⟩]) := by unfold Hid; rw [HNL.out, HND.out]; rfl
 obtain ⟨td, htd⟩ : ∃ td, td = qbc (tldL fs) 4 := ⟨_, rfl⟩
 rw [← htd] at ht7 htl4 htl19 HDY HDH hq6 ⊢
 have HT7 : Hid (∀ y ∈ td, y ≤ 7) := ht7
 have HDX : Hid (DX w6 (.slice a sn cap) ts (.slice (some ⟨g1, 0, none⟩) nl 286) ls (.slice (some ⟨g2, 0, none⟩) nd 30) ds (.slice a4 st.length c4) st (.slice (some ⟨g5, 0, none⟩) 19 19) fs (.slice (some ⟨p6, 0, none⟩) td.length c6) td) :=
  ⟨HSG1.out.below HB6.out, HQ1.out.below HB6.out, HQ2.out.below HB6.out, HST5.out.below hb6, HQ5.out.below hb6, hq6⟩
 obtain ⟨nt, hnt⟩ : ∃ nt, nt = td.length := ⟨_, rfl⟩
 have HNT : Hid (nt = td.length) := hnt
 rw [← hnt] at htl4 htl19 HDX HDH ⊢
 have hs6 := HB6.out.size
 have hHD := qrl last 2 w6 (by decide)
 rw [show ((2 : Nat) : Int) = 2 from rfl] at hHD
 clear hTF hq6 hb6 ht7 htd hnt HST4 HST5 HQ5 HQ1 HQ2 HSG1 HB2 HB3 HB4 HB5
 go_wp2_with fail
 refine hHD.mono ?_
 rintro e w7 ⟨ha, hc, rfl, ho7, hb7⟩
 have HB7 : Hid (Below w6.heap.size w6 w7) := hb7
 have HO7 : Hid (PO w7 w6.heap.size (.slice ha 2 hc) (qcr last 2)) := ho7
 have hwl : IntKind.i64.wrap ((nl : Int) - 257) = ((nl - 257 : Nat) : Int) := by rw [IntKind.wrap_i64]; omega
 have hwd : IntKind.i64.wrap ((nd : Int) - 1) = ((nd - 1 : Nat) : Int) := by rw [IntKind.wrap_i64]; omega
 have hwt : IntKind.i64.wrap ((nt : Int) - 4) = ((nt - 4 : Nat) : Int) := by rw [IntKind.wrap_i64]; omega
 have HN1 : Hid (∀ W, Calls Tryz.prog 54 #[.int .i64 ((nl - 257 : Nat) : Int), .int .i64 5] W fun e w' => e = .returned (pv ⟨nl - 257, 5, false⟩) ∧ Below W.heap.size W w') := fun W => qcf (nl - 257) 5 W (by omega)
 have HN2 : Hid (∀ W, Calls Tryz.prog 54 #[.int .i64 ((nd - 1 : Nat) : Int), .int .i64 5] W fun e w' => e = .returned (pv ⟨nd - 1, 5, false⟩) ∧ Below W.heap.size W w') := fun W => qcf (nd - 1) 5 W (by omega)
 have HN3 : Hid (∀ W, Calls Tryz.prog 54 #[.int .i64 ((nt - 4 : Nat) : Int), .int .i64 4] W fun e w' => e = .returned (pv ⟨nt - 4, 4, false⟩) ∧ Below W.heap.size W w') := fun W => qcf (nt - 4) 4 W (by omega)
 have HOR6 : Hid (∀ r, (Value.slice ha 2 hc).ownBlock = some r → w6.heap.size ≤ r) := fun r hr => (World.ownsRow.lt HO7.out r hr).1
 have hs7 := hb7.size
 have hnl2 : nl - 257 ≤ 29 := by omega
 unfold pv at HN1 HN2 HN3
 generalize nl - 257 = xl at *
 generalize nd - 1 = xd at *
 generalize nt - 4 = xt at *
 clear ho7 hb7 hHD
 go_wp2_with fail
 refine (HN1.out w7).mono ?_
 rintro e w8 ⟨rfl, hb8⟩
 have HB8 : Hid (Below w6.heap.size w6 w8) := HB7.out.trans (hb8.mono hs7)
 have HO8 : Hid (PO w8 w6.heap.size (.slice ha 2 hc) (qcr last 2)) := HO7.out.below hb8
 clear hb8
 go_wp2_with fail
 refine (HN2.out w8).mono ?_
 rintro e w9 ⟨rfl, hb9⟩
 have HB9 : Hid (Below w6.heap.size w6 w9) := HB8.out.trans (hb9.mono HB8.out.size)
 have HO9 : Hid (PO w9 w6.heap.size (.slice ha 2 hc) (qcr last 2)) := HO8.out.below hb9
 clear hb9
 go_wp2_with fail
 refine (HN3.out w9).mono ?_
 rintro e wa ⟨rfl, hba⟩
 have HBA : Hid (Below w6.heap.size w6 wa) := HB9.out.trans (hba.mono HB9.out.size)
 have HMA : Hid (PO (wa.alloc (.cells #[.int .u32 (xl : Int), .int .i64 5, .bool false, .int .u32 (xd : Int), .int .i64 5, .bool false, .int .u32 (xt : Int), .int .i64 4, .bool false] 119)) wa.heap.size (.slice (some ⟨wa.heap.size, 0, none⟩) 3 3) [⟨xl, 5, false⟩, ⟨xd, 5, false⟩, ⟨xt, 4, false⟩]) := PO.made3 wa ⟨xl, 5, false⟩ ⟨xd, 5, false⟩ ⟨xt, 4, false⟩
 have HOA : Hid (∀ o, PO (wa.alloc o) w6.heap.size (.slice ha 2 hc) (qcr last 2)) := fun o => (HO9.out.below hba).below ((Below.refl _ _).alloc (Nat.le_refl _) _)
 have HLE5 : Hid ((qcr last 2).length + ([⟨xl, 5, false⟩, ⟨xd, 5, false⟩, ⟨xt, 4, false⟩] : List Prt).length ≤ 1000000) := by unfold Hid qcr; simp
 have HSA : Hid (∀ o, w6.heap.size ≤ (wa.alloc o).heap.size) := fun o => by rw [World.size_alloc]; have := HBA.out.size; omega
 clear hba hwl hwd hwt HN1 HN2 HN3
 go_upto_region 6 with (at_builtin; refine qer rfl _ _ rfl w6.heap.size wa.heap.size (.slice ha 2 hc) (.slice (some ⟨wa.heap.size, 0, none⟩) 3 3) (qcr last 2) [⟨xl, 5, false⟩, ⟨xd, 5, false⟩, ⟨xt, 4, false⟩] rfl rfl (HOA.out _) HMA.out HLE5.out (HSA.out _) ?_; intro a' c' wb hOb hgb)
 have HOB : Hid (PO wb w6.heap.size (.slice a' 5 c') (qd5 ls ds fs last)) := by unfold Hid; rw [HDH.out]; exact hOb
 have HBB : Hid (Below w6.heap.size w6 wb) := (HBA.out.alloc HBA.out.size _).grown hgb (HSA.out _) (fun r hr => HOR6.out r hr)
 have HTN : Hid (td.length = nt) := HNT.out.symm
 have HBD5 : Hid ((qd5 ls ds fs last).length = 5) := by unfold Hid; rw [HDH.out]; rfl
 clear hOb hgb HOA HMA HLE5 HSA HO7 HO8 HO9 HB7 HB8 HB9
 go_wp2
 go_loopw [45, 10, 12] (fun i o _ wr => ∃ (k qq : Nat) (qa : Option Addr) (qc : Nat), k ≤ nt ∧ i = .int .i64 (k : Int) ∧ o = .slice qa qq qc ∧ Hid (qq = (qd5 ls ds fs last ++ tolP (td.take k)).length) ∧ PO wr w6.heap.size (.slice qa qq qc) (qd5 ls ds fs last ++ tolP (td.take k)) ∧ Below w6.heap.size w6 wr) (fun i _ _ _ => nt - (intOf i).toNat)
 case atStart => exact ⟨0, 5, a', c', Nat.zero_le _, rfl, rfl, by unfold Hid; rw [List.length_append, HBD5.out]; rfl, by have := HOB.out; rw [show qd5 ls ds fs last ++ tolP (td.take 0) = qd5 ls ds fs last by simp [tolP]]; exact this, HBB.out⟩
 case round =>
  clear HOB HBB
  obtain ⟨k, qq, qa, qc, hk, rfl, rfl, HQQ, hO, hb⟩ := hrel
  have HO : Hid (PO wr w6.heap.size (.slice qa qq qc) (qd5 ls ds fs last ++ tolP (td.take k))) := hO
  have HB : Hid (Below w6.heap.size w6 wr) := hb
  have hsr := hb.size
  have hor : ∀ r, (Value.slice qa qq qc).ownBlock = some r → w6.heap.size ≤ r := fun r hr => (World.ownsRow.lt hO r hr).1
  have HOR : Hid (∀ r, (Value.slice qa qq qc).ownBlock = some r → w6.heap.size ≤ r) := hor
  have HLQ : Hid ((qd5 ls ds fs last ++ tolP (td.take k)).length ≤ 30) := by
   unfold Hid
   rw [List.length_append, HBD5.out]
   unfold tolP
   rw [List.length_map, List.length_take]; omega
  clear hO hb hor
  by_cases hlt : k < nt
  · have hki : (k : Int) < (nt : Int) := by omega
    have hkt : k < td.length := by rw [HTN.out]; exact hlt
    obtain ⟨c0, hp6⟩ := IQ.cellAt (HDX.out.below HB.out).2.2.2.2.2 k hkt
    rw [Nat.zero_add] at c0
    have hge : td.getD k 0 = td[k] := by rw [List.getD_eq_getElem?_getD, List.getElem?_eq_getElem hkt]; rfl
    have HTK : Hid (qd5 ls ds fs last ++ tolP (td.take (k + 1)) = (qd5 ls ds fs last ++ tolP (td.take k)) ++ [⟨td.getD k 0, 3, false⟩]) := by
     unfold Hid
     rw [hge, List.append_assoc, List.take_add_one, List.getElem?_eq_getElem hkt]
     unfold tolP
     rw [List.map_append]
     rfl
    clear hge
    have hy7 : td.getD k 0 ≤ 7 := HT7.out _ (by rw [List.getD_eq_getElem?_getD, List.getElem?_eq_getElem hkt]; exact List.getElem_mem hkt)
    generalize td.getD k 0 = y at *
    obtain ⟨Lk, hLk⟩ : ∃ Lk, Lk = qd5 ls ds fs last ++ tolP (td.take k) := ⟨_, rfl⟩
    rw [← hLk] at HO HLQ HTK
    clear hLk
    have HNU := qcf y 3 wr (by omega)
    rw [show ((3 : Nat) : Int) = 3 from rfl] at HNU
    unfold pv at HNU
    go_wp2_with fail
    refine HNU.mono ?_
    rintro e wy ⟨rfl, hby⟩
    have HBY : Hid (Below w6.heap.size w6 wy) := HB.out.trans (hby.mono hsr)
    have HMY : Hid (PO (wy.alloc (.cells #[.int .u32 (y : Int), .int .i64 3, .bool false] 119)) wy.heap.size (.slice (some ⟨wy.heap.size, 0, none⟩) 1 1) [⟨y, 3, false⟩]) := PO.made1 wy ⟨y, 3, false⟩
    have HOY : Hid (∀ o, PO (wy.alloc o) w6.heap.size (.slice qa qq qc) Lk) := fun o => (HO.out.below hby).below ((Below.refl _ _).alloc (Nat.le_refl _) _)
    have HLE5 : Hid (Lk.length + ([⟨y, 3, false⟩] : List Prt).length ≤ 1000000) := by have := HLQ.out; unfold Hid; simp only [List.length_cons, List.length_nil]; omega
    have HSA : Hid (∀ o, w6.heap.size ≤ (wy.alloc o).heap.size) := fun o => by rw [World.size_alloc]; have := HBY.out.size; omega
    clear hby HNU c0 hkt
    go_wp2_with (at_builtin; refine qer rfl _ _ rfl w6.heap.size wy.heap.size (.slice qa qq qc) (.slice (some ⟨wy.heap.size, 0, none⟩) 1 1) Lk [⟨y, 3, false⟩] rfl rfl (HOY.out _) HMY.out HLE5.out (HSA.out _) ?_; intro a9 c9 w9 hO9 hg9)
    have HO9 : Hid (PO w9 w6.heap.size (.slice a9 (Lk.length + 1) c9) (qd5 ls ds fs last ++ tolP (td.take (k + 1)))) := by unfold Hid; rw [HTK.out]; exact hO9
    have HQ9 : Hid (Lk.length + 1 = (qd5 ls ds fs last ++ tolP (td.take (k + 1))).length) := by unfold Hid; rw [HTK.out, List.length_append]; rfl
    have HB9 : Hid (Below w6.heap.size w6 w9) := (HBY.out.alloc HBY.out.size _).grown hg9 (HSA.out _) (fun r hr => HOR.out r hr)
    clear hO9 hg9
    go_wp2
    go_roundw
    case rel => exact ⟨k + 1, _, a9, c9, by omega, by go_num, rfl, HQ9.out, HO9.out, HB9.out⟩
    case measure => simp [intOf]; omega
  · have hki : ¬ (k : Int) < (nt : Int) := by omega
    obtain rfl : k = nt := by omega
    rw [List.take_of_length_le (by rw [HTN.out]; exact Nat.le_refl _)] at HO HLQ
    have HXR := HDX.out.below HB.out
    have hSP := qk4 _ _ st fs wr HXR.2.2.2.1 HXR.2.2.2.2.1 (HFK.out.okl (by decide) (by decide)) HFL.out HSL4.out HIN4.out
    obtain ⟨L1, hL1⟩ : ∃ L1, L1 = qd5 ls ds fs last ++ tolP td := ⟨_, rfl⟩
    rw [← hL1] at HO HLQ HDY
    have HSPL : Hid ((qbv fs st).length ≤ 2000) := by unfold Hid; rw [qfw]; have := HSL4.out; omega
    clear hL1 HXR
    go_wp2_with fail
    refine hSP.mono ?_
    rintro e wx ⟨vx, rfl, hox, hbx⟩
    obtain ⟨xa, xc, rfl⟩ := hox.shape
    have HBX : Hid (Below w6.heap.size w6 wx) := HB.out.trans (hbx.mono hsr)
    have HUX : Hid (PO wx wr.heap.size (.slice xa (qbv fs st).length xc) (qbv fs st)) := hox
    have HOX : Hid (PO wx w6.heap.size (.slice qa qq qc) L1) := HO.out.below hbx
    have HLEX : Hid (L1.length + (qbv fs st).length ≤ 1000000) := by have := HLQ.out; have := HSPL.out; unfold Hid; omega
    have hsx := HBX.out.size
    clear hox hbx hSP
    go_upto_region 12 with (at_builtin; refine qer rfl _ _ rfl w6.heap.size wr.heap.size (.slice qa qq qc) (.slice xa (qbv fs st).length xc) L1 (qbv fs st) rfl rfl HOX.out HUX.out HLEX.out hsx ?_; intro a9 c9 w9 hO9 hg9)
    obtain ⟨L2, hL2⟩ : ∃ L2, L2 = L1 ++ qbv fs st := ⟨_, rfl⟩
    rw [← hL2] at hO9 HDY
    have HL2 : Hid (L2.length = L1.length + (qbv fs st).length) := by unfold Hid; rw [hL2, List.length_append]
    have HO9 : Hid (PO w9 w6.heap.size (.slice a9 (L1.length + (qbv fs st).length) c9) L2) := hO9
    have HB9 : Hid (Below w6.heap.size w6 w9) := HBX.out.grown hg9 hsx (fun r hr => HOR.out r hr)
    have HX9 := HDX.out.below HB9.out
    have HOKL : Hid (OkL ls) := HK1.out.okl (by decide) (by decide)
    have HOKD : Hid (OkL ds) := HK2.out.okl (by decide) (by decide)
    have hBD := qnv _ _ _ (qah ts) (zL ls) (zL ds) w9 HX9.1 HX9.2.1 HX9.2.2.1 HOKL.out.err HOKD.out.err (by have := HSL.out; omega) (fun s hs => by
     rw [qa9, qa9]
     exact ⟨(HK1.out.pos s.sym ⟨s, hs, rfl⟩).1, fun hr => (HK2.out.pos s.far ⟨s, hs, hr, rfl⟩).1⟩)
    rw [qjx, qjx] at hBD
    have HBPL : Hid ((qaj ls ds (qah ts)).length ≤ 20000) := by
     have := qc6 ls ds (qah ts)
     have := HSL.out
     unfold Hid; omega
    have hs9 := HB9.out.size
    have hl12 : L1.length + (qbv fs st).length ≤ 3000 := by have := HLQ.out; have := HSPL.out; omega
    have HF9 : Hid (L1.length + (qbv fs st).length = L2.length) := HL2.out.symm
    generalize L1.length + (qbv fs st).length = n2 at *
    clear hO9 hg9 hL2 HX9
    go_wp2_with fail
    refine hBD.mono ?_
    rintro e wv ⟨vv, rfl, hov, hbv⟩
    obtain ⟨va, vc, rfl⟩ := hov.shape
    have HBV : Hid (Below w6.heap.size w6 wv) := HB9.out.trans (hbv.mono hs9)
    have HUV : Hid (PO wv w9.heap.size (.slice va (qaj ls ds (qah ts)).length vc) (qaj ls ds (qah ts))) := hov
    have HOV : Hid (PO wv w6.heap.size (.slice a9 n2 c9) L2) := HO9.out.below hbv
    have HLEV : Hid (L2.length + (qaj ls ds (qah ts)).length ≤ 1000000) := by have := HBPL.out; have := HF9.out; unfold Hid; omega
    have hsv := HBV.out.size
    have HOR9 : Hid (∀ r, (Value.slice a9 n2 c9).ownBlock = some r → w6.heap.size ≤ r) := fun r hr => (World.ownsRow.lt HO9.out r hr).1
    clear hov hbv hBD
    go_wp2_with (at_builtin; refine qer rfl _ _ rfl w6.heap.size w9.heap.size (.slice a9 n2 c9) (.slice va (qaj ls ds (qah ts)).length vc) L2 (qaj ls ds (qah ts)) rfl rfl HOV.out HUV.out HLEV.out hsv ?_; intro az cz wz hOz hgz)
    have HOZ : Hid (PO wz w.heap.size (.slice az (L2.length + (qaj ls ds (qah ts)).length) cz) (dynP ls ds fs ts last)) := by unfold Hid; rw [HDY.out]; exact hOz.base (Nat.le_trans hs1 hs6)
    have HBZ : Hid (Below w.heap.size w wz) := HB1.out.trans ((HB6.out.trans ((HBV.out.grown hgz hsv (fun r hr => HOR9.out r hr)).mono hs6)).mono hs1)
    have HFKZ : Hid (LnOk (fstF (qca (zL (ls ++ ds)))) fs 19 19 7 (fun i => ∃ s ∈ qca (zL (ls ++ ds)), s.sym.toNat = i)) := by unfold Hid; rw [HSTE.out]; exact HFK.out
    clear hOz hgz
    go_wp2
    go_ret
    exact ⟨_, ls, ds, fs, rfl, HOZ.out, HK1.out, HK2.out, HFKZ.out, HBZ.out⟩
end Go.Proofs.YthkppipdflmekaaGreat
