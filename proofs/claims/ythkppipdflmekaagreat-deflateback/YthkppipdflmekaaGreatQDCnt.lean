/- Rows of counts; deflate's lengthsOf. -/
import Derived.Test.YthkppipdflmekaaGreatQDCut
import Derived.Test.YthkppipdflmekaaGreatQDynE
import Derived.Test.YthkppipdflmekaaGreatQHLen
import Derived.Test.YthkppipdflmekaaGreatQDBod
import Derived.Laws.MakeOwn
import Derived.Deep.RegionHeld3
set_option maxRecDepth 100000
set_option maxHeartbeats 4000000
namespace Go.Proofs.YthkppipdflmekaaGreat
open Go.RowKit
set_option linter.unusedVariables false
set_option linter.unusedSimpArgs false
def qjt (zs : List Int) (m : Nat) : List Nat := qby zs (risF zs) m
structure LnOk (E ls : List Nat) (lo hi m : Nat) (used : Nat → Prop) : Prop where
 is : ls = E
 le : ∀ x ∈ ls, x ≤ m
 fit : fitB ls = true
 lo : lo ≤ ls.length
 hi : ls.length ≤ hi
 pos : ∀ i, used i → i < ls.length ∧ 0 < ln ls i
theorem qp9 {a b : List Nat} (h : ∀ j, ln a j = ln b j) : ∀ k, qbg a k = qbg b k
 | 0 => rfl
 | k + 1 => by rw [qbg, qbg, qp9 h k, h k]
theorem qq9 {a b : List Nat} (h : ∀ j, ln a j = ln b j) (p : Nat → Bool) : ∀ k, qcp a p k = qcp b p k
 | 0 => rfl
 | k + 1 => by rw [qcp, qcp, qq9 h p k, h k]
theorem qmm {a : List Nat} {n : Nat} (h : ∀ j, n ≤ j → ln a j = 0) : ∀ d, qbg a (n + d) = qbg a n
 | 0 => rfl
 | d + 1 => by rw [← Nat.add_assoc, qbg, qmm h d, h (n + d) (by omega)]; simp
theorem qm6 {a : List Nat} {n : Nat} (p : Nat → Bool) (h : ∀ j, n ≤ j → ln a j = 0) : ∀ d, qcp a p (n + d) = qcp a p n
 | 0 => rfl
 | d + 1 => by rw [← Nat.add_assoc, qcp, qm6 p h d, h (n + d) (by omega)]; simp
theorem qpf {ls : List Nat} {n : Nat} (h : ∀ j, n ≤ j → ln ls j = 0) (j : Nat) : ln (ls.take n) j = ln ls j := by
 by_cases hj : j < n
 · unfold ln; rw [List.getD_eq_getElem?_getD, List.getElem?_take, if_pos hj, List.getD_eq_getElem?_getD]
 · rw [h j (by omega)]
   unfold ln; rw [List.getD_eq_getElem?_getD, List.getElem?_take, if_neg hj]; rfl
theorem qwo {ls : List Nat} {n : Nat} (hn : n ≤ ls.length) (h : ∀ j, n ≤ j → ln ls j = 0) : fitB (ls.take n) = fitB ls := by
 have hl : (ls.take n).length = n := by rw [List.length_take]; omega
 have e1 := qmm h (ls.length - n)
 have e2 := qm6 (fun _ => true) h (ls.length - n)
 rw [show n + (ls.length - n) = ls.length by omega] at e1 e2
 unfold fitB allP
 rw [hl, qp9 (qpf h), qq9 (qpf h), e1, e2]
def qbc (ls : List Nat) (lo : Nat) : List Nat := ls.take (cutN (zL ls) lo ls.length)
theorem qbk (ls : List Nat) (lo : Nat) : (qbc ls lo).length = cutN (zL ls) lo ls.length := by
 have := qeo (zL ls) lo ls.length
 unfold qbc; rw [List.length_take]; omega
theorem qe6 (ls : List Nat) (lo j : Nat) (h : cutN (zL ls) lo ls.length ≤ j) : ln ls j = 0 := by
 by_cases hj : j < ls.length
 · have := qnx (zL ls) lo ls.length j h hj
   rw [qgi] at this
   unfold ln; omega
 · unfold ln; rw [List.getD_eq_getElem?_getD, List.getElem?_eq_none (by omega)]; rfl
theorem qrh (ls : List Nat) (lo j : Nat) : ln (qbc ls lo) j = ln ls j := qpf (qe6 ls lo) j
theorem LenP.cut {zs : List Int} {m : Nat} {ls : List Nat} (h : LenP zs m ls) (lo : Nat) (hlo : lo ≤ zs.length) : LnOk (qbc ls lo) (qbc ls lo) lo zs.length m (fun i => i < zs.length ∧ 0 < zs.getD i 0) := by
 have hlen := h.len
 have hge := ql8 (zL ls) lo ls.length (by omega)
 have hle := qeo (zL ls) lo ls.length
 refine ⟨rfl, fun x hx => ?_, ?_, ?_, ?_, fun i hi => ?_⟩
 · obtain ⟨i, hi, rfl⟩ := List.mem_iff_getElem.1 (List.mem_of_mem_take hx)
   have := h.le i
   rwa [List.getD_eq_getElem?_getD, List.getElem?_eq_getElem hi] at this
 · unfold qbc
   rw [qwo hle (qe6 ls lo)]; exact h.fit
 · rw [qbk]; exact hge
 · rw [qbk]; omega
 · have hp := h.yes i hi.1 hi.2
   have hln : 0 < ln ls i := hp
   refine ⟨?_, by rw [qrh]; exact hln⟩
   rw [qbk]
   rcases Nat.lt_or_ge i (cutN (zL ls) lo ls.length) with g | g
   · exact g
   · have := qe6 ls lo i g; omega
theorem qjx (ls : List Nat) : toN (zL ls) = ls := by
 unfold toN zL; rw [List.map_map]
 have : (Int.toNat ∘ fun n : Nat => (n : Int)) = id := by funext n; simp
 rw [this, List.map_id]
theorem LnOk.okl {E ls : List Nat} {lo hi m : Nat} {used : Nat → Prop} (h : LnOk E ls lo hi m used) (hm : m ≤ 15) (hh : hi ≤ 320) : OkL ls :=
 ⟨fun x hx => Nat.le_trans (h.le x hx) hm, h.fit, Nat.le_trans h.hi hh⟩
theorem OkL.err {ls : List Nat} (h : OkL ls) : errN (zL ls) = 0 := by
 refine ql7 (by rw [qa9]; have := h.few; omega) (fun i hi => ?_) (by rw [qjx]; exact h.fit)
 rw [qgi]
 have := h.all.at i
 unfold ln at this
 omega
theorem qm5 (zs : List Int) : (posL zs zs.length).length ≤ zs.length := by
 unfold posL
 exact Nat.le_trans (List.length_filter_le _ _) (by rw [List.length_range]; exact Nat.le_refl _)
theorem qjd (v : Value) (zs : List Int) (m : Nat) (w : World) (hR : IQ w v zs) (hk : chkC zs (m : Int) = 0) (hp : zs.length ≤ 2 ^ m) :
    Calls Tryz.prog 80 #[v, .int .i64 (m : Int)] w fun e w' => ∃ (g : Nat) (ls : List Nat), e = .returned (.slice (some ⟨g, 0, none⟩) zs.length zs.length) ∧ ls = qjt zs m ∧ LenP zs m ls ∧
     w'.ownsRow w.heap.size 3 1 (.slice (some ⟨g, 0, none⟩) zs.length zs.length) zs.length (nch ls) ∧ Below w.heap.size w w' := by
 have HL := qnj v zs m w hR hk (Nat.le_trans (qm5 zs) hp)
 obtain ⟨h320, hm1, hm15, hzz⟩ := qn0 hk
 have HOK : Hid (∀ ss, RisP zs ss → LenP zs m (qby zs ss m)) := fun ss h => q2x zs ss m h (by omega) (by omega) (by
  have := h.perm.length_eq
  have := qm5 zs
  omega)
 obtain ⟨g, o, cap, rfl, -, -⟩ := hR
 obtain ⟨n, hn⟩ : ∃ n, n = zs.length := ⟨_, rfl⟩
 rw [← hn] at HL ⊢
 clear hn h320 hm1 hm15 hzz hk hp
 go_enter Tryz.func80, Tryz.ntmps80
 go_wp2_with fail
 refine HL.mono ?_
 rintro e w1 ⟨g1, ss, rfl, hs, hO, hb⟩
 have HLP : Hid (LenP zs m (qby zs ss m)) := HOK.out ss hs
 have HEQ : Hid (qby zs ss m = qjt zs m) := by unfold Hid qjt; rw [q2d hs]
 have HO : Hid (w1.ownsRow w.heap.size 3 1 (.slice (some ⟨g1, 0, none⟩) n n) n (nch (qby zs ss m))) := hO
 have HB : Hid (Below w.heap.size w w1) := hb
 clear hs hO hb HL
 go_wp2
 go_ret
 exact ⟨g1, qby zs ss m, rfl, HEQ.out, HLP.out, HO.out, HB.out⟩
structure PBk where
 kind : Nat
 fs : List Nat
 ls : List Nat
 ds : List Nat
 n : Nat
 ts : List Tok
structure DynOk (fs ls ds : List Nat) (n : Nat) : Prop where
 fst : OkL fs
 h19 : fs.length = 19
 h7 : ∀ x ∈ fs, x ≤ 7
 n4 : 4 ≤ n
 n19 : n ≤ 19
 rest : ∀ j, n ≤ j → j < 19 → fs.getD (ordL.getD j 0) 0 = 0
 l1 : 257 ≤ ls.length
 l2 : ls.length ≤ 286
 d1 : 1 ≤ ds.length
 d2 : ds.length ≤ 30
 steps : ∀ s ∈ qb6 (zL (ls ++ ds)) (ls ++ ds).length 0, 0 < ln fs s.sym.toNat
structure PBk.Ok (b : PBk) : Prop where
 kinds : (b.kind = 1 ∧ b.ls = fixL ∧ b.ds = fixD) ∨ (b.kind = 2 ∧ DynOk b.fs b.ls b.ds b.n)
 okl : OkL b.ls
 okd : OkL b.ds
 h256 : 256 < b.ls.length
 p256 : 0 < ln b.ls 256
 codes : ∀ t ∈ b.ts, qxu b.ls b.ds t
def PBk.head (b : PBk) : List Bool := if b.kind = 1 then [] else encH b.fs b.ls b.ds b.n
def PBk.bits (last : Nat) (b : PBk) : List Bool := lowB last 1 ++ (lowB b.kind 2 ++ (b.head ++ (encs b.ls b.ds b.ts ++ qau b.ls 256)))
theorem qr5 {ls ds : List Nat} : ∀ ts : List Tok, (∀ t ∈ ts, qxu ls ds t) → ts.length ≤ (encs ls ds ts).length
 | [], _ => by simp
 | t :: ts, h => by
  have ih := qr5 ts (fun u hu => h u (by simp [hu]))
  have ht := (h t (by simp)).2.2.1
  have hle : ln ls (symT t) ≤ (encT ls ds t).length := by
   unfold encT
   split
   · rw [qai]; exact Nat.le_refl _
   · rw [List.length_append, qai]; omega
  rw [qgf, List.length_append, List.length_cons]; omega
theorem qsh {b : PBk} (hk : b.Ok) {last : Nat} (hla : last ≤ 1) {f : Nat → Bool} {L most p out : Nat} {O O' : List Nat} (hO : O.length = out) (he : expF most b.ts O = (O', 0)) (hb : qb0 f p (b.bits last)) (hl : p + (b.bits last).length ≤ L) :
    blkF f L most p out = .ok (⟨b.kind, [], b.ts⟩, last, p + (b.bits last).length, O'.length) := by
 have hk2 : b.kind < 4 := by rcases hk.kinds with ⟨h, _⟩ | ⟨h, _⟩ <;> omega
 have hge := qr5 b.ts hk.codes
 unfold PBk.bits at hb hl ⊢
 simp only [List.length_append, qat, qai] at hl ⊢
 have r1 := hb.right
 rw [qat] at r1
 have r2 := r1.right
 rw [qat] at r2
 have r3 := r2.right
 have t1 := qee (L := L) (show last < 2 ^ 1 by omega) hb.left (by omega)
 have t2 := qee (L := L) (show b.kind < 2 ^ 2 by omega) r1.left (by omega)
 have hT := qqd hk.okl.all hk.okl.fit hk.okd.all hk.okd.fit hk.h256 hk.p256 (f := f) (L := L) (most := most) b.ts (L + 1) (p + 1 + 2 + b.head.length) out [] O O' hO he hk.codes r3 (by omega) (by omega)
 rw [blkF, t1]
 simp only
 rw [t2]
 simp only
 rcases hk.kinds with ⟨h1, e1, e2⟩ | ⟨h2, hd⟩
 · have hh : b.head = [] := by unfold PBk.head; rw [if_pos h1]
   rw [hh] at hT ⊢
   rw [e1, e2] at hT
   simp only [List.length_nil, Nat.add_zero] at hT
   rw [h1, if_neg (by decide), if_pos rfl, show p + 3 = p + 1 + 2 by omega, hT]
   simp only [List.nil_append, List.length_nil, Except.ok.injEq, Prod.mk.injEq, true_and, and_true]
   rw [e1, e2]
   omega
 · have hh : b.head = encH b.fs b.ls b.ds b.n := by unfold PBk.head; rw [if_neg (by omega)]
   rw [hh] at hT hl r2 ⊢
   have h256' : b.ls.getD 256 0 ≠ 0 := by have := hk.p256; unfold ln at this; omega
   have hD := qz1 hd.fst hk.okl hk.okd hd.h19 hd.h7 hd.n4 hd.n19 hd.rest hd.l1 hd.l2 hd.d1 hd.d2 h256' hd.steps r2.left (L := L) (by omega)
   rw [h2, if_neg (by decide), if_neg (by decide), if_pos rfl, show p + 3 = p + 1 + 2 by omega, hD]
   simp only
   rw [hT]
   simp only [List.nil_append, Except.ok.injEq, Prod.mk.injEq, true_and, and_true]
   omega
def qb5 : List PBk → List Bool
 | [] => []
 | [b] => b.bits 1
 | b :: c :: r => b.bits 0 ++ qb5 (c :: r)
theorem qxi (last : Nat) (b : PBk) : 3 ≤ (b.bits last).length := by
 unfold PBk.bits
 simp only [List.length_append, qat]; omega
theorem qsi : ∀ l : List PBk, l.length ≤ (qb5 l).length
 | [] => Nat.le_refl _
 | [b] => by have := qxi 1 b; show 1 ≤ (b.bits 1).length; omega
 | b :: c :: r => by
  have ih := qsi (c :: r)
  have := qxi 0 b
  rw [qb5, List.length_append, List.length_cons]; omega
theorem qzx (most : Int) : ∀ (a b : List Tok) (O P Q : List Nat), expF most a O = (P, 0) → expF most b P = (Q, 0) → expF most (a ++ b) O = (Q, 0)
 | [], b, O, P, Q, h1, h2 => by
  have : O = P := by simpa [expF] using h1
  subst this; exact h2
 | t :: a, b, O, P, Q, h1, h2 => by
  rw [List.cons_append, expF]
  rw [expF] at h1
  split at h1
  · rename_i q
    rw [if_pos q]
    exact qzx most a b _ P Q h1 h2
  · rename_i q
    simp at h1
    omega
theorem qko (most : Int) : ∀ (a b : List Tok) (O Q : List Nat), expF most (a ++ b) O = (Q, 0) → ∃ P, expF most a O = (P, 0) ∧ expF most b P = (Q, 0)
 | [], b, O, Q, h => ⟨O, by simp [expF], h⟩
 | t :: a, b, O, Q, h => by
  rw [List.cons_append, expF] at h
  rw [expF]
  split at h
  · rename_i q
    rw [if_pos q]
    exact qko most a b _ Q h
  · rename_i q
    simp at h
    omega
theorem qn8 {f : Nat → Bool} {L most : Nat} : ∀ (bs : List PBk) (k p out : Nat) (acc : List Blk) (O Q : List Nat), bs ≠ [] → (∀ b ∈ bs, b.Ok) → O.length = out → expF most (bs.flatMap PBk.ts) O = (Q, 0) → qb0 f p (qb5 bs) → p + (qb5 bs).length ≤ L → bs.length ≤ k →
    qbt f L most k p out acc = .ok (acc ++ bs.map (fun b => ⟨b.kind, [], b.ts⟩), p + (qb5 bs).length)
 | [], k, p, out, acc, O, Q, hne, hk, hO, he, hb, hl, hf => absurd rfl hne
 | [b], 0, p, out, acc, O, Q, hne, hk, hO, he, hb, hl, hf => by simp at hf
 | [b], k + 1, p, out, acc, O, Q, hne, hk, hO, he, hb, hl, hf => by
  have he' : expF most b.ts O = (Q, 0) := by simpa using he
  rw [qbt, qsh (hk b (by simp)) (Nat.le_refl _) hO he' hb hl]
  simp only
  rw [if_pos trivial]
  rfl
 | b :: c :: r, 0, p, out, acc, O, Q, hne, hk, hO, he, hb, hl, hf => by simp at hf
 | b :: c :: r, k + 1, p, out, acc, O, Q, hne, hk, hO, he, hb, hl, hf => by
  rw [List.flatMap_cons] at he
  obtain ⟨P, h1, h2⟩ := qko most _ _ _ _ he
  rw [qb5] at hb hl ⊢
  rw [List.length_append] at hl ⊢
  rw [qbt, qsh (hk b (by simp)) (Nat.zero_le _) hO h1 hb.left (by omega)]
  simp only
  rw [if_neg (by decide), qn8 (c :: r) k _ _ _ P Q (by simp) (fun x hx => hk x (by simp at hx ⊢; exact .inr hx)) rfl h2 hb.right (by omega) (by simpa using hf)]
  simp only [List.map_cons, List.append_assoc, List.singleton_append, Except.ok.injEq, Prod.mk.injEq, true_and]
  omega
def NRw (w : World) (g n : Nat) (c : Nat → Nat) : Prop := w.heap[g]? = some (.cells ((List.range n).map fun i => Value.int .i64 (c i : Int)).toArray 3 (0, 0))
theorem NRw.lt {w : World} {g n : Nat} {c : Nat → Nat} (h : NRw w g n c) : g < w.heap.size := (Array.getElem?_eq_some_iff.1 h).1
theorem NRw.cell {w : World} {g n : Nat} {c : Nat → Nat} (h : NRw w g n c) (j : Nat) (hj : j < n) : w.cell? ⟨g, j, none⟩ = some (.int .i64 (c j : Int)) := by
 unfold NRw at h
 unfold World.cell?
 rw [h]
 simp [hj]
theorem NRw.fz {w : World} {g n : Nat} {c : Nat → Nat} (h : NRw w g n c) (j : Nat) : w.frozen? ⟨g, j, none⟩ = false := by
 unfold NRw at h
 simp [World.frozen?, h]
theorem NRw.keep {w w' : World} {g n : Nat} {c : Nat → Nat} (h : NRw w g n c) (hb : w'.heap[g]? = w.heap[g]?) : NRw w' g n c := hb.trans h
theorem NRw.eq {w : World} {g n : Nat} {b b' : Nat → Nat} (h : NRw w g n b) (hb : ∀ i, i < n → b' i = b i) : NRw w g n b' := by
 unfold NRw at h ⊢
 rw [h]
 congr 2
 congr 1
 apply List.map_congr_left
 intro i hi
 rw [hb i (List.mem_range.1 hi)]
theorem NRw.set {w : World} {g n : Nat} {b : Nat → Nat} (h : NRw w g n b) (j x : Nat) (b' : Nat → Nat) (hb : ∀ i, i < n → b' i = if i = j then x else b i) : NRw (w.setCell ⟨g, j, none⟩ (.int .i64 (x : Int))) g n b' := by
 unfold NRw at h ⊢
 have : (w.setCell ⟨g, j, none⟩ (.int .i64 (x : Int))).heap[g]? = some (.cells (((List.range n).map fun i => Value.int .i64 (b i : Int)).toArray.setIfInBounds j (.int .i64 (x : Int))) 3 (0, 0)) := by simp [World.setCell, Array.getElem?_modify, h]
 rw [this]
 congr 2
 apply Array.toList_inj.1
 rw [Array.toList_setIfInBounds]
 apply List.ext_getElem? fun i => ?_
 rw [List.getElem?_set]
 by_cases hi : i < n
 · have hb' := hb i hi
   by_cases e : j = i
   · subst e
     rw [if_pos rfl] at hb'
     simp [hi, hb']
   · rw [if_neg (fun h => e h.symm)] at hb'
     rw [if_neg e]
     simp [hi, hb']
 · simp [hi]; omega
theorem Tryz.infoIz : (Tryz.prog.info? 3).map (fun i => (i.zero, i.size, i.bytes)) = some (some (.int .i64 0), 1, 8) := by kernel_rfl
theorem q2v : ∀ n : Nat, madeCells #[Value.int .i64 0] n = ((List.range n).map fun _ => Value.int .i64 ((0 : Nat) : Int)).toArray := by
 intro n
 apply Array.toList_inj.1
 apply List.ext_getElem? fun i => ?_
 simp [madeCells]
 by_cases h : i < n <;> simp [h, Nat.mod_one]
def qc7 (n : Nat) : Array Value := ((List.range n).map fun _ => Value.int .i64 ((0 : Nat) : Int)).toArray
theorem qpd (n : Nat) (hn : n ≤ 1000) (W : World) : (Instr.makeSlice 39 (.int .i64 (n : Int)) (.int .i64 (n : Int))).run Tryz.prog W = .ok (.slice (some ⟨W.heap.size, 0, none⟩) n n) (W.alloc (.cells (qc7 n) 3)) := by
 obtain ⟨i0, hi, hz0, hz1, hz2⟩ := info_parts Tryz.infoIz
 have h := run_makeSlice (P := Tryz.prog) (w := W) 39 3 i0 (.int .i64 0) Tryz.underlying39 hi hz0 .i64 .i64 n n (by omega) (by omega) (by rw [hz1]; omega) (by rw [hz2]; omega) (by omega)
 rw [h]
 simp only [Int.toNat_natCast, hz1, Nat.mul_one, Value.cells]
 rw [q2v]; rfl
theorem NRw.made (W : World) (n : Nat) : NRw (W.alloc (.cells (qc7 n) 3)) W.heap.size n (fun _ => 0) := heap_alloc_new W _
theorem NRw.iq {w : World} {g n : Nat} {c : Nat → Nat} (h : NRw w g n c) : IQ w (.slice (some ⟨g, 0, none⟩) n n) ((List.range n).map fun i => (c i : Int)) := by
 refine ⟨g, 0, n, by simp, h.lt, fun i hi => ?_⟩
 have hi' : i < n := by simpa using hi
 rw [Nat.zero_add, h.cell i hi', List.getD_eq_getElem?_getD, List.getElem?_map, List.getElem?_range hi']; rfl
def symC (l : List Sgn) (i : Nat) : Nat := l.countP fun s => s.sym == i
def farC (l : List Sgn) (i : Nat) : Nat := l.countP fun s => s.rep && s.far == i
def symF (l : List Sgn) : List Nat := qbc (qjt ((List.range 286).map fun i => (symC l i : Int)) 15) 257
def farF (l : List Sgn) : List Nat := qbc (qjt ((List.range 30).map fun i => (farC l i : Int)) 15) 1
theorem qup (l : List Sgn) (s : Sgn) (i : Nat) : symC (l ++ [s]) i = if i = s.sym then symC l i + 1 else symC l i := by
 unfold symC
 rw [List.countP_append]
 by_cases h : i = s.sym
 · subst h; simp
 · have : (s.sym == i) = false := beq_eq_false_iff_ne.2 (fun e => h e.symm)
   simp [h, this]
theorem qzw (l : List Sgn) (s : Sgn) (hr : s.rep = true) (i : Nat) : farC (l ++ [s]) i = if i = s.far then farC l i + 1 else farC l i := by
 unfold farC
 rw [List.countP_append]
 by_cases h : i = s.far
 · subst h; simp [hr]
 · have : (s.far == i) = false := beq_eq_false_iff_ne.2 (fun e => h e.symm)
   simp [h, this]
theorem q27 (l : List Sgn) (s : Sgn) (hr : s.rep = false) (i : Nat) : farC (l ++ [s]) i = farC l i := by
 unfold farC
 rw [List.countP_append]; simp [hr]
theorem quq (l : List Sgn) (i : Nat) : symC l i ≤ l.length := List.countP_le_length
theorem qws (l : List Sgn) (i : Nat) : farC l i ≤ l.length := List.countP_le_length
theorem qe3 {w : World} {B n g cap : Nat} {ls : List Nat} (h : w.ownsRow B 3 1 (.slice (some ⟨g, 0, none⟩) n cap) n (nch ls)) (i : Nat) (hi : i < ls.length) : w.cell? ⟨g, i, none⟩ = some (.int .i64 (ls.getD i 0 : Int)) := by
 have := World.ownsRow.cells h (g := g) rfl i (.int .i64 (ls.getD i 0 : Int)) (by
  unfold nch
  rw [List.getElem?_map, List.getD_eq_getElem?_getD, List.getElem?_eq_getElem hi]; rfl)
 rwa [Addr.add_mid, Nat.zero_add] at this
theorem qwg {w : World} {B n g cap : Nat} {ls : List Nat} (h : w.ownsRow B 3 1 (.slice (some ⟨g, 0, none⟩) n cap) n (nch ls)) (lo : Nat) (hl : ls.length = n) : IQ w (.slice (some ⟨g, 0, none⟩) (qbc ls lo).length cap) (zL (qbc ls lo)) := by
 have hle := qeo (zL ls) lo ls.length
 refine ⟨g, 0, cap, by rw [qa9], (World.ownsRow.lt h g rfl).2, fun i hi => ?_⟩
 rw [qa9, qbk] at hi
 rw [Nat.zero_add, qe3 h i (by omega), qgi]
 have := qrh ls lo i
 unfold ln at this
 rw [this]
theorem qr9 {w : World} {B n g : Nat} {ls : List Nat} {zs : List Int} (hlen : ls.length = zs.length) (hz : zs.length = n) (h : w.ownsRow B 3 1 (.slice (some ⟨g, 0, none⟩) n n) n (nch ls)) (lo : Nat) (hlo : lo ≤ 1000) (hn : n ≤ 1000) :
    Calls Tryz.prog 79 #[.slice (some ⟨g, 0, none⟩) n n, .int .i64 (lo : Int)] w fun e w' => e = .returned (.slice (some ⟨g, 0, none⟩) (qbc ls lo).length n) ∧ w' = w := by
 have hl : (zL ls).length = n := by rw [qa9]; omega
 have := qw3 g 0 n (zL ls) lo w (World.ownsRow.lt h g rfl).2 (fun i hi => by
  rw [Nat.zero_add, qe3 h i (by rw [qa9] at hi; exact hi), qgi]) (by omega) (by omega) hlo
 rw [hl, show n = ls.length by omega] at this
 rw [show n = ls.length by omega, qbk]
 exact this
theorem qls (v : Value) (l : List Sgn) (w : World) (hS : SgS w v l) (hl : l.length ≤ 10000) (hk : ∀ s ∈ l, s.sym < 286 ∧ (s.rep = true → s.far < 30)) :
    Calls Tryz.prog 50 #[v] w fun e w' => ∃ (g1 g2 : Nat) (ls ds : List Nat), e = .returned (.tuple #[.slice (some ⟨g1, 0, none⟩) ls.length 286, .slice (some ⟨g2, 0, none⟩) ds.length 30]) ∧
     LnOk (symF l) ls 257 286 15 (fun i => ∃ s ∈ l, s.sym = i) ∧ LnOk (farF l) ds 1 30 15 (fun i => ∃ s ∈ l, s.rep = true ∧ s.far = i) ∧
     IQ w' (.slice (some ⟨g1, 0, none⟩) ls.length 286) (zL ls) ∧ IQ w' (.slice (some ⟨g2, 0, none⟩) ds.length 30) (zL ds) ∧ Below w.heap.size w w' := by
 have HSG : Hid (SgS w v l) := hS
 have HK : Hid (∀ s ∈ l, s.sym < 286 ∧ (s.rep = true → s.far < 30)) := hk
 obtain ⟨a, cap, rfl, hcap, -⟩ := hS
 obtain ⟨n, hn⟩ : ∃ n, n = l.length := ⟨_, rfl⟩
 have HN : Hid (n = l.length) := hn
 rw [← hn] at HSG hcap hl ⊢
 have hm1 := qpd 286 (by omega)
 have hm2 := qpd 30 (by omega)
 rw [show ((286 : Nat) : Int) = 286 from rfl] at hm1
 rw [show ((30 : Nat) : Int) = 30 from rfl] at hm2
 clear hn hk
 go_enter Tryz.func50, Tryz.ntmps50
 go_upto_region 1 with fail
 go_cut [4, 5] (fun x y wx => ∃ g1 g2, x = .slice (some ⟨g1, 0, none⟩) 286 286 ∧ y = .slice (some ⟨g2, 0, none⟩) 30 30 ∧ NRw wx g1 286 (fun _ => 0) ∧ NRw wx g2 30 (fun _ => 0) ∧ g1 ≠ g2 ∧ w.heap.size ≤ g1 ∧ w.heap.size ≤ g2 ∧ Below w.heap.size w wx)
 case first =>
  have H1 : Hid (NRw ((w.alloc (.cells (qc7 286) 3)).alloc (.cells (qc7 30) 3)).drew w.heap.size 286 (fun _ => 0)) := heap_alloc2_old w _ _
  have H2 : Hid (NRw ((w.alloc (.cells (qc7 286) 3)).alloc (.cells (qc7 30) 3)).drew (w.heap.size + 1) 30 (fun _ => 0)) := heap_alloc2_new w _ _
  have H3 : Hid (NRw ((w.alloc (.cells (qc7 30) 3)).alloc (.cells (qc7 286) 3)).drew w.heap.size 30 (fun _ => 0)) := heap_alloc2_old w _ _
  have H4 : Hid (NRw ((w.alloc (.cells (qc7 30) 3)).alloc (.cells (qc7 286) 3)).drew (w.heap.size + 1) 286 (fun _ => 0)) := heap_alloc2_new w _ _
  have HB : Hid (∀ a b : Obj, Below w.heap.size w ((w.alloc a).alloc b).drew) := fun a b => (((Below.refl _ w).alloc (Nat.le_refl _) _).alloc (by simp) _).drew
  go_region
  all_goals go_wp2
  all_goals (go_meet; first | exact ⟨w.heap.size, w.heap.size + 1, rfl, rfl, H1.out, H2.out, by omega, Nat.le_refl _, by omega, HB.out _ _⟩ | exact ⟨w.heap.size + 1, w.heap.size, rfl, rfl, H4.out, H3.out, by omega, by omega, Nat.le_refl _, HB.out _ _⟩)
 case rest =>
  obtain ⟨g1, g2, rfl, rfl, hn1, hn2, hne, hg1, hg2, hb⟩ := hcut
  have HN1 : Hid (NRw wc g1 286 (fun _ => 0)) := hn1
  have HN2 : Hid (NRw wc g2 30 (fun _ => 0)) := hn2
  have HBC : Hid (Below w.heap.size w wc) := hb
  have hzg := qt7
  have hz9 : (Tryz.prog.info? 121).map (·.size) = some 9 := by kernel_rfl
  have HZ9 : Hid ((Tryz.prog.info? 121).map (·.size) = some 9) := hz9
  clear hz9 hn1 hn2 hb hm1 hm2
  go_wp2
  go_loopw [12] (fun i wr => ∃ k : Nat, k ≤ n ∧ i = .int .i64 (k : Int) ∧ NRw wr g1 286 (symC (l.take k)) ∧ NRw wr g2 30 (farC (l.take k)) ∧ Below w.heap.size w wr) (fun i _ => n - (intOf i).toNat)
  case atStart => exact ⟨0, Nat.zero_le _, rfl, HN1.out.eq (fun i _ => rfl), HN2.out.eq (fun i _ => rfl), HBC.out⟩
  case round =>
   clear HN1 HN2 HBC
   obtain ⟨k, hk, rfl, hn1, hn2, hb⟩ := hrel
   have HN1 : Hid (NRw wr g1 286 (symC (l.take k))) := hn1
   have HN2 : Hid (NRw wr g2 30 (farC (l.take k))) := hn2
   have HB : Hid (Below w.heap.size w wr) := hb
   have hl1 := hn1.lt
   have hl2 := hn2.lt
   have hsr := hb.size
   clear hn1 hn2 hb
   by_cases hlt : k < n
   · have hki : (k : Int) < (n : Int) := by omega
     obtain ⟨s, hs⟩ : ∃ s, l[k]? = some s := ⟨_, List.getElem?_eq_getElem (by rw [← HN.out]; exact hlt)⟩
     obtain ⟨g, rfl, hg, -, hcap2, hrg⟩ := (HSG.out.below HB.out).at hs
     have HRG : Hid (wr.rangeAt g (k * 9) (sgC s)) := hrg
     have HT1 : Hid (l.take (k + 1) = l.take k ++ [s]) := by unfold Hid; rw [List.take_add_one, hs]; rfl
     have hsk := HK.out s (List.mem_of_getElem? hs)
     have HFR : Hid (s.rep = true → s.far < 30) := hsk.2
     have hsym : s.sym < 286 := hsk.1
     have hsymi : (s.sym : Int) < 286 := by omega
     have hc1 : symC (l.take k) s.sym ≤ k := Nat.le_trans (quq _ _) (by rw [List.length_take]; omega)
     clear hrg hs hsk
     go_upto_region 5 with (first | (refine wpList_load_mid rfl 121 (Operand.tmp 14) rfl g (k * 9) rfl (sgC s) _ HRG.out Tryz.underlying121 rfl HZ9.out ?_) | (refine wpList_store_row rfl 121 (Operand.tmp 7) (Operand.tmp 15) rfl wr.heap.size (sgC s).toArray rfl rfl 121 sg0 (heap_alloc_new wr _) HZ9.out rfl (all_oneCell_toArray (qk9 s)) ?_))
     have hpn : ∀ a : Act, a.put none undef = a := fun _ => rfl
     rw [hpn]
     obtain ⟨W3, hW3⟩ : ∃ W3, W3 = (wr.alloc (.cells sg0 121)).setRow wr.heap.size (sgC s).toArray := ⟨_, rfl⟩
     rw [← hW3]
     have hs3 : W3.heap[wr.heap.size]? = some (.cells (sgC s).toArray 121 (0, 0)) := by rw [hW3]; exact setRow_heap _ _ _ _ _ _ (heap_alloc_new wr _)
     have hb3 : Below wr.heap.size wr W3 := by rw [hW3]; exact below_setRow ((Below.refl _ _).alloc (Nat.le_refl _) _) (Nat.le_refl _) _
     have HB3 : Hid (Below w.heap.size w W3) := HB.out.trans (hb3.mono hsr)
     have HN13 : Hid (NRw W3 g1 286 (symC (l.take k))) := HN1.out.keep (hb3.block _ hl1)
     have HN23 : Hid (NRw W3 g2 30 (farC (l.take k))) := HN2.out.keep (hb3.block _ hl2)
     have HS3 : Hid (W3.heap[wr.heap.size]? = some (.cells (sgC s).toArray 121 (0, 0))) := hs3
     have hsz3 : wr.heap.size < W3.heap.size := (Array.getElem?_eq_some_iff.1 hs3).1
     have hl13 := HN13.out.lt
     have e0 : W3.cell? ⟨wr.heap.size, 0, none⟩ = some (.int .i64 (s.sym : Int)) := by rw [cell_of_row _ _ _ _ _ _ hs3]; rfl
     have e1 := HN13.out.cell s.sym hsym
     have e2 := HN13.out.fz s.sym
     have hw1 : IntKind.i64.wrap ((symC (l.take k) s.sym : Int) + 1) = ((symC (l.take k) s.sym + 1 : Nat) : Int) := by rw [IntKind.wrap_i64]; omega
     have HSC : Hid (∀ i, symC (l.take (k + 1)) i = if i = s.sym then symC (l.take k) s.sym + 1 else symC (l.take k) i) := fun i => by
      rw [HT1.out, qup]
      split
      · rename_i e; rw [e]
      · rfl
     clear hW3 hb3 hs3 HRG
     generalize hcc : symC (l.take k) s.sym = c at *
     clear hcc
     go_upto_region 6 with fail
     obtain ⟨W4, hW4⟩ : ∃ W4, W4 = W3.setCell ⟨g1, s.sym, none⟩ (.int .i64 ((c : Int) + 1)) := ⟨_, rfl⟩
     rw [← hW4]
     have HN14 : Hid (NRw W4 g1 286 (symC (l.take (k + 1)))) := by rw [hW4]; exact HN13.out.set s.sym (c + 1) _ (fun i _ => HSC.out i)
     have HN24 : Hid (NRw W4 g2 30 (farC (l.take k))) := by rw [hW4]; exact HN23.out.keep (heap_setCell_other _ _ _ _ (fun e => hne e.symm))
     have HS4 : Hid (W4.heap[wr.heap.size]? = some (.cells (sgC s).toArray 121 (0, 0))) := by rw [hW4]; exact (heap_setCell_other _ _ _ _ (fun e => Nat.lt_irrefl _ (e ▸ hl1))).trans HS3.out
     have HB4 : Hid (Below w.heap.size w W4) := by rw [hW4]; exact HB3.out.setCell hg1 _
     have hsz4 : wr.heap.size < W4.heap.size := (Array.getElem?_eq_some_iff.1 HS4.out).1
     have hl24 := HN24.out.lt
     have d4 : W4.cell? ⟨wr.heap.size, 4, none⟩ = some (.bool s.rep) := by rw [cell_of_row _ _ _ _ _ _ HS4.out]; rfl
     clear hW4 e0 e1 e2 hw1 HSC HN13 HN23 HS3 HB3
     by_cases hr : s.rep = true
     · have hfar : s.far < 30 := HFR.out hr
       have hfari : (s.far : Int) < 30 := by omega
       have HFC : Hid (∀ i, farC (l.take (k + 1)) i = if i = s.far then farC (l.take k) s.far + 1 else farC (l.take k) i) := fun i => by
        rw [HT1.out, qzw _ _ hr]
        split
        · rename_i e; rw [e]
        · rfl
       have hc2 : farC (l.take k) s.far ≤ k := Nat.le_trans (qws _ _) (by rw [List.length_take]; omega)
       rw [hr] at d4
       have e0 : W4.cell? ⟨wr.heap.size, 3, none⟩ = some (.bool s.more.code) := by rw [cell_of_row _ _ _ _ _ _ HS4.out]; rfl
       have e3 : W4.cell? ⟨wr.heap.size, 5, none⟩ = some (.int .i64 (s.far : Int)) := by rw [cell_of_row _ _ _ _ _ _ HS4.out]; rfl
       have e1 := HN24.out.cell s.far hfar
       have e2 := HN24.out.fz s.far
       have hw1 : IntKind.i64.wrap ((farC (l.take k) s.far : Int) + 1) = ((farC (l.take k) s.far + 1 : Nat) : Int) := by rw [IntKind.wrap_i64]; omega
       generalize hcc : farC (l.take k) s.far = c2 at *
       clear hcc hr
       go_upto_region 8 with fail
       obtain ⟨W5, hW5⟩ : ∃ W5, W5 = W4.setCell ⟨g2, s.far, none⟩ (.int .i64 ((c2 : Int) + 1)) := ⟨_, rfl⟩
       rw [← hW5]
       have HN15 : Hid (NRw W5 g1 286 (symC (l.take (k + 1)))) := by rw [hW5]; exact HN14.out.keep (heap_setCell_other _ _ _ _ hne)
       have HN25 : Hid (NRw W5 g2 30 (farC (l.take (k + 1)))) := by rw [hW5]; exact HN24.out.set s.far (c2 + 1) _ (fun i _ => HFC.out i)
       have HB5 : Hid (Below w.heap.size w W5) := by rw [hW5]; exact HB4.out.setCell hg2 _
       clear hW5 e0 e1 e2 e3 hw1 HFC d4
       go_wp2
       go_roundw
       case rel => exact ⟨k + 1, by omega, by go_num, HN15.out, HN25.out, HB5.out⟩
       case measure => simp [intOf]; omega
     · have hr' : s.rep = false := by cases h : s.rep <;> simp_all
       have HN25 : Hid (NRw W4 g2 30 (farC (l.take (k + 1)))) := HN24.out.eq (fun i _ => by rw [HT1.out, q27 _ _ hr'])
       rw [hr'] at d4
       clear hr hr'
       go_wp2
       go_roundw
       case rel => exact ⟨k + 1, by omega, by go_num, HN14.out, HN25.out, HB4.out⟩
       case measure => simp [intOf]; omega
   · have hki : ¬ (k : Int) < (n : Int) := by omega
     obtain rfl : k = n := by omega
     rw [List.take_of_length_le (by rw [← HN.out]; exact Nat.le_refl _)] at HN1 HN2
     obtain ⟨zs, hz⟩ : ∃ zs, zs = (List.range 286).map fun i => (symC l i : Int) := ⟨_, rfl⟩
     obtain ⟨fs, hf⟩ : ∃ fs, fs = (List.range 30).map fun i => (farC l i : Int) := ⟨_, rfl⟩
     have hzl : zs.length = 286 := by rw [hz]; simp
     have hfl : fs.length = 30 := by rw [hf]; simp
     have hzg : ∀ i, i < 286 → zs.getD i 0 = (symC l i : Int) := fun i hi => by rw [hz, List.getD_eq_getElem?_getD, List.getElem?_map, List.getElem?_range hi]; rfl
     have hfg : ∀ i, i < 30 → fs.getD i 0 = (farC l i : Int) := fun i hi => by rw [hf, List.getD_eq_getElem?_getD, List.getElem?_map, List.getElem?_range hi]; rfl
     have hq1 : IQ wr (.slice (some ⟨g1, 0, none⟩) 286 286) zs := by rw [hz]; exact HN1.out.iq
     have hq2 : IQ wr (.slice (some ⟨g2, 0, none⟩) 30 30) fs := by rw [hf]; exact HN2.out.iq
     have hck1 : chkC zs ((15 : Nat) : Int) = 0 := qmb (by omega) (by omega) (fun i hi => by rw [hzg i (by omega)]; have := quq l i; have := HN.out; omega)
     have hck2 : chkC fs ((15 : Nat) : Int) = 0 := qmb (by omega) (by omega) (fun i hi => by rw [hfg i (by omega)]; have := qws l i; have := HN.out; omega)
     have HU1 : Hid (∀ i, (∃ s ∈ l, s.sym = i) → i < zs.length ∧ 0 < zs.getD i 0) := fun i ⟨s, hs, hi⟩ => by
      have h286 : i < 286 := by rw [← hi]; exact (HK.out s hs).1
      refine ⟨by omega, ?_⟩
      rw [hzg i h286]
      have : 0 < symC l i := by unfold symC; exact List.countP_pos_iff.2 ⟨s, hs, by simp [hi]⟩
      omega
     have HU2 : Hid (∀ i, (∃ s ∈ l, s.rep = true ∧ s.far = i) → i < fs.length ∧ 0 < fs.getD i 0) := fun i ⟨s, hs, hr, hi⟩ => by
      have h30 : i < 30 := by rw [← hi]; exact (HK.out s hs).2 hr
      refine ⟨by omega, ?_⟩
      rw [hfg i h30]
      have : 0 < farC l i := by unfold farC; exact List.countP_pos_iff.2 ⟨s, hs, by simp [hi, hr]⟩
      omega
     have HB1 := qjd _ zs 15 wr hq1 hck1 (by rw [hzl]; decide)
     have HB2 : Hid (∀ W, Below wr.heap.size wr W → Calls Tryz.prog 80 #[.slice (some ⟨g2, 0, none⟩) 30 30, .int .i64 15] W fun e w' => ∃ (g : Nat) (ls : List Nat), e = .returned (.slice (some ⟨g, 0, none⟩) 30 30) ∧ ls = qjt fs 15 ∧ LenP fs 15 ls ∧ w'.ownsRow W.heap.size 3 1 (.slice (some ⟨g, 0, none⟩) 30 30) 30 (nch ls) ∧ Below W.heap.size W w') := fun W hW => by
      have := qjd _ fs 15 W (hq2.below hW) hck2 (by rw [hfl]; decide)
      rw [hfl] at this
      exact this
     rw [hzl, show ((15 : Nat) : Int) = 15 from rfl] at HB1
     have HZL : Hid (zs.length = 286) := hzl
     have HFL : Hid (fs.length = 30) := hfl
     have HSF : Hid (qbc (qjt zs 15) 257 = symF l) := by unfold Hid symF; rw [hz]
     have HFF : Hid (qbc (qjt fs 15) 1 = farF l) := by unfold Hid farF; rw [hf]
     clear hz hf hzl hfl hzg hfg hq1 hq2 hck1 hck2
     go_wp2_with fail
     refine HB1.mono ?_
     rintro e w3 ⟨p1, ls, rfl, hle, hlp, ho3, hb3⟩
     have HLP : Hid (LenP zs 15 ls) := hlp
     have HE1 : Hid (qbc ls 257 = symF l) := by unfold Hid; rw [hle]; exact HSF.out
     have HO3 : Hid (w3.ownsRow wr.heap.size 3 1 (.slice (some ⟨p1, 0, none⟩) 286 286) 286 (nch ls)) := ho3
     have HB3 : Hid (Below wr.heap.size wr w3) := hb3
     have hcu1 := qr9 HLP.out.len HZL.out HO3.out 257 (by omega) (by omega)
     have hsr3 := hb3.size
     clear HB1 hle hlp ho3 hb3
     go_wp2_with fail
     refine hcu1.mono ?_
     rintro e w4 ⟨rfl, rfl⟩
     clear hcu1
     go_wp2_with fail
     refine (HB2.out _ HB3.out).mono ?_
     rintro e w5 ⟨p2, ds, rfl, hle, hlp, ho5, hb5⟩
     have HLP2 : Hid (LenP fs 15 ds) := hlp
     have HE2 : Hid (qbc ds 1 = farF l) := by unfold Hid; rw [hle]; exact HFF.out
     have HO5 : Hid (w5.ownsRow w4.heap.size 3 1 (.slice (some ⟨p2, 0, none⟩) 30 30) 30 (nch ds)) := ho5
     have HB5 : Hid (Below wr.heap.size wr w5) := HB3.out.trans (hb5.mono HB3.out.size)
     have HO35 : Hid (w5.ownsRow wr.heap.size 3 1 (.slice (some ⟨p1, 0, none⟩) 286 286) 286 (nch ls)) := qa0 HO3.out hb5
     have hcu2 := qr9 HLP2.out.len HFL.out HO5.out 1 (by omega) (by omega)
     clear hle hlp ho5 hb5
     go_wp2_with fail
     refine hcu2.mono ?_
     rintro e w6 ⟨rfl, rfl⟩
     clear hcu2
     have HC1 : Hid (LnOk (symF l) (qbc ls 257) 257 286 15 (fun i => ∃ s ∈ l, s.sym = i)) := by
      have h := HLP.out.cut 257 (by rw [HZL.out]; omega)
      exact ⟨HE1.out, h.le, h.fit, h.lo, by have := h.hi; rw [HZL.out] at this; exact this, fun i hi => h.pos i (HU1.out i hi)⟩
     have HC2 : Hid (LnOk (farF l) (qbc ds 1) 1 30 15 (fun i => ∃ s ∈ l, s.rep = true ∧ s.far = i)) := by
      have h := HLP2.out.cut 1 (by rw [HFL.out]; omega)
      exact ⟨HE2.out, h.le, h.fit, h.lo, by have := h.hi; rw [HFL.out] at this; exact this, fun i hi => h.pos i (HU2.out i hi)⟩
     have HI1 : Hid (IQ w6 (.slice (some ⟨p1, 0, none⟩) (qbc ls 257).length 286) (zL (qbc ls 257))) := qwg HO35.out 257 (by rw [HLP.out.len, HZL.out])
     have HI2 : Hid (IQ w6 (.slice (some ⟨p2, 0, none⟩) (qbc ds 1).length 30) (zL (qbc ds 1))) := qwg HO5.out 1 (by rw [HLP2.out.len, HFL.out])
     have HBF : Hid (Below w.heap.size w w6) := HB.out.trans (HB5.out.mono hsr)
     go_wp2
     go_ret2
     exact ⟨p1, p2, qbc ls 257, qbc ds 1, rfl, HC1.out, HC2.out, HI1.out, HI2.out, HBF.out⟩
end Go.Proofs.YthkppipdflmekaaGreat
