/- Contract of the document's Sizes. -/
import Derived.Test.YthkppipdflmekaaGreatQInfK
import Derived.Laws.OwnMore
import Derived.BigQuiet
set_option maxRecDepth 100000
set_option maxHeartbeats 2000000
namespace Go.Proofs.YthkppipdflmekaaGreat
open Go.RowKit
set_option linter.unusedVariables false
theorem qft {ls ds : List Nat} (hl : qbh ls) (hd : qbh ds) {f : Nat → Bool} {L most : Nat} : ∀ (k p out : Nat) (acc ts : List Tok) (q o : Nat), p ≤ L → out ≤ most → tksF ls ds f L most k p out acc = .ok (ts, q, o) → ts.length + out ≤ acc.length + o ∧ o ≤ most ∧ q ≤ L
 | 0, p, out, acc, ts, q, o, hp, ho, h => by rw [tksF] at h; cases h
 | k + 1, p, out, acc, ts, q, o, hp, ho, h => by
  rw [tksF] at h
  cases hx : nxF ls f L p with
  | error e => rw [hx] at h; cases h
  | ok r1 =>
   obtain ⟨sym, p1⟩ := r1
   rw [hx] at h
   simp only at h
   obtain ⟨_, _, hp1⟩ := qdj hl hp hx
   by_cases h6 : sym = 256
   · rw [if_pos h6] at h
     simp only [Except.ok.injEq, Prod.mk.injEq] at h
     obtain ⟨rfl, rfl, rfl⟩ := h
     exact ⟨Nat.le_refl _, ho, hp1⟩
   · rw [if_neg h6] at h
     cases ht : tkE ds f L most p1 out sym with
     | error e => rw [ht] at h; cases h
     | ok r2 =>
      obtain ⟨t, p2, o2⟩ := r2
      rw [ht] at h
      simp only at h
      obtain ⟨_, hp2, ho2, _, hw, _⟩ := qui hd hp1 ht
      have hw1 := qed t
      have := qft hl hd k p2 o2 _ ts q o hp2 ho2 h
      rw [List.length_append, List.length_singleton] at this
      omega
theorem qop {f : Nat → Bool} {L most p out : Nat} {b : List Nat} {q o : Nat} (h : stF f L most p out = .ok (b, q, o)) : b.length + out = o ∧ o ≤ most ∧ q ≤ L := by
 unfold stF at h
 cases h1 : tkF f L ((p + 7) / 8 * 8) 16 with
 | error e => rw [h1] at h; cases h
 | ok n =>
  rw [h1] at h
  simp only at h
  cases h2 : tkF f L ((p + 7) / 8 * 8 + 16) 16 with
  | error e => rw [h2] at h; cases h
  | ok m =>
   rw [h2] at h
   simp only at h
   split at h
   · cases h
   · split at h
     · cases h
     · split at h
       · cases h
       · simp only [Except.ok.injEq, Prod.mk.injEq] at h
         obtain ⟨rfl, rfl, rfl⟩ := h
         unfold bytF
         rw [List.length_map, List.length_range]
         omega
theorem qve {ns : List Nat} (h15 : qbh ns) {f : Nat → Bool} {L n : Nat} : ∀ (k p : Nat) (row row' : List Nat) (q : Nat), p ≤ L → rowF ns f L n k p row = .ok (row', q) → q ≤ L
 | 0, p, row, row', q, hp, h => by rw [rowF] at h; cases h
 | k + 1, p, row, row', q, hp, h => by
  rw [rowF] at h
  split at h
  · split at h
    · cases h
    · simp only [Except.ok.injEq, Prod.mk.injEq] at h; omega
  · cases hx : nxF ns f L p with
    | error e => rw [hx] at h; cases h
    | ok r1 =>
     obtain ⟨sym, p1⟩ := r1
     rw [hx] at h
     simp only at h
     obtain ⟨_, _, hp1⟩ := qdj h15 hp hx
     split at h
     · cases h
     · cases ht : tkF f L p1 (tmF sym).2 with
       | error e => rw [ht] at h; cases h
       | ok m =>
        rw [ht] at h
        simp only at h
        exact qve h15 k _ _ _ _ (qcg ht).1 h
theorem qw0 {f : Nat → Bool} {L p : Nat} {ls ds : List Nat} {q : Nat} (h : dynF f L p = .ok (ls, ds, q)) : Lens ls ∧ Lens ds ∧ q ≤ L := by
 by_cases hL : p + 14 ≤ L
 · rw [qr7 hL] at h
   unfold dynT at h
   split at h
   · cases h
   · split at h
     · cases h
     · split at h
       · cases h
       · rename_i hft
         have hft' : fitE (fstL f (p + 14) (qal (fun i => f (p + 10 + i)) 4 + 4)) = true := by
          cases hh : fitE (fstL f (p + 14) (qal (fun i => f (p + 10 + i)) 4 + 4))
          · exact absurd hh hft
          · rfl
         split at h
         · cases h
         · rename_i row p1 hro
           have hq := qve (qbx hft').2.1 _ _ _ _ _ (by omega) hro
           split at h
           · cases h
           · split at h
             · cases h
             · rename_i hbd
               simp only [Except.ok.injEq, Prod.mk.injEq] at h
               obtain ⟨rfl, rfl, rfl⟩ := h
               refine ⟨(qbx ?_).2, (qbx ?_).2, hq⟩
               · cases hh : fitE (List.take (qal (fun i => f (p + i)) 5 + 257) row)
                 · exact absurd (.inl hh) hbd
                 · rfl
               · cases hh : fitE (List.drop (qal (fun i => f (p + i)) 5 + 257) row)
                 · exact absurd (.inr hh) hbd
                 · rfl
 · rw [qnt (by omega)] at h; cases h
def bkP (b : Blk) : List Tok := (b.bytes.map fun c => (⟨c, 0, 0⟩ : Tok)) ++ b.toks
def jkP (l : List Blk) : List Tok := l.flatMap bkP
theorem q3t {f : Nat → Bool} {L most p out k : Nat} {b : Blk} {q o : Nat} (hp : p ≤ L) (ho : out ≤ most) (h : bdF f L most p out k = .ok (b, q, o)) : (bkP b).length + out ≤ o ∧ o ≤ most ∧ q ≤ L := by
 unfold bdF at h
 unfold bkP
 rw [List.length_append, List.length_map]
 split at h
 · cases hs : stF f L most p out with
   | error e => rw [hs] at h; cases h
   | ok r =>
    obtain ⟨x, y, z⟩ := r
    rw [hs] at h
    simp only [Except.ok.injEq, Prod.mk.injEq] at h
    obtain ⟨rfl, rfl, rfl⟩ := h
    have := qop hs
    simp only [List.length_nil]
    omega
 · split at h
   · cases hs : tksF fixL fixD f L most (L + 1) p out [] with
     | error e => rw [hs] at h; cases h
     | ok r =>
      obtain ⟨x, y, z⟩ := r
      rw [hs] at h
      simp only [Except.ok.injEq, Prod.mk.injEq] at h
      obtain ⟨rfl, rfl, rfl⟩ := h
      have := qft qgc.1 qgd.1 _ _ _ _ _ _ _ hp ho hs
      simp only [List.length_nil] at this ⊢
      omega
   · split at h
     · cases hd : dynF f L p with
       | error e => rw [hd] at h; cases h
       | ok r =>
        obtain ⟨ls, ds, p1⟩ := r
        rw [hd] at h
        simp only at h
        obtain ⟨h1, h2, h3⟩ := qw0 hd
        cases hs : tksF ls ds f L most (L + 1) p1 out [] with
        | error e => rw [hs] at h; cases h
        | ok r =>
         obtain ⟨x, y, z⟩ := r
         rw [hs] at h
         simp only [Except.ok.injEq, Prod.mk.injEq] at h
         obtain ⟨rfl, rfl, rfl⟩ := h
         have := qft h1.1 h2.1 _ _ _ _ _ _ _ h3 ho hs
         simp only [List.length_nil] at this ⊢
         omega
     · cases h
theorem q0f {f : Nat → Bool} {L most p out : Nat} {b : Blk} {last q o : Nat} (ho : out ≤ most) (h : blkF f L most p out = .ok (b, last, q, o)) : (bkP b).length + out ≤ o ∧ o ≤ most ∧ q ≤ L := by
 rw [qha] at h
 cases h1 : tkF f L p 1 with
 | error e => rw [h1] at h; cases h
 | ok la =>
  rw [h1] at h
  simp only at h
  cases h2 : tkF f L (p + 1) 2 with
  | error e => rw [h2] at h; cases h
  | ok k =>
   rw [h2] at h
   simp only at h
   cases h3 : bdF f L most (p + 3) out k with
   | error e => rw [h3] at h; cases h
   | ok r =>
    obtain ⟨x, y, z⟩ := r
    rw [h3] at h
    simp only [Except.ok.injEq, Prod.mk.injEq] at h
    obtain ⟨rfl, rfl, rfl, rfl⟩ := h
    exact q3t (qcg h2).1 ho h3
theorem qn7 {f : Nat → Bool} {L most : Nat} : ∀ (k p out : Nat) (acc bs : List Blk) (q : Nat), out ≤ most → (jkP acc).length ≤ out → qbt f L most k p out acc = .ok (bs, q) → (jkP bs).length ≤ most ∧ q ≤ L
 | 0, p, out, acc, bs, q, ho, ha, h => by rw [qbt] at h; cases h
 | k + 1, p, out, acc, bs, q, ho, ha, h => by
  rw [qbt] at h
  cases hb : blkF f L most p out with
  | error e => rw [hb] at h; cases h
  | ok r =>
   obtain ⟨b, la, p1, o1⟩ := r
   rw [hb] at h
   simp only at h
   obtain ⟨h1, h2, h3⟩ := q0f ho hb
   have hj : (jkP (acc ++ [b])).length = (jkP acc).length + (bkP b).length := by
    unfold jkP; rw [List.flatMap_append, List.length_append]; simp
   split at h
   · simp only [Except.ok.injEq, Prod.mk.injEq] at h
     obtain ⟨rfl, rfl⟩ := h
     omega
   · exact qn7 k p1 o1 _ bs q h2 (by omega) h
theorem q4n {w : World} {B : Nat} {v : Value} {l : List Item} (h : BRow w B v l) : jtk l = jkP (l.map Prod.fst) := by
 have key : ∀ l : List Item, (∀ x ∈ l, qmh w B x) → jtk l = jkP (l.map Prod.fst) := by
  intro l
  induction l with
  | nil => intro _; rfl
  | cons x l ih =>
   intro hx
   unfold jtk jkP
   rw [List.flatMap_cons, List.map_cons, List.flatMap_cons]
   have h1 := ih (fun y hy => hx y (List.mem_cons_of_mem _ hy))
   unfold jtk jkP at h1
   rw [h1]
   congr 1
   unfold btk bkP tok0
   rw [← (hx x (List.mem_cons_self ..)).1]
   rfl
 exact key l h.2
theorem qnm (s S : ByteArray) (a most : Nat) (r : Except Nat (List Blk × Nat)) (w : World) (ha : a ≤ s.size) (hm : most ≤ 65536) (hs : s.size ≤ 100000000) (hS : S = s.extract a s.size) (h : qbt (bF8 S) (8 * S.size) most (8 * S.size + 1) 0 0 [] = r) :
    Calls Tryz.prog 7 #[.string s, .int .i64 (a : Int), .int .i64 (most : Int)] w fun e w' => (∃ l q, r = .ok (l, q) ∧ e = .returned (.tuple #[.string (bs (expF 9223372036854775807 (jkP l) []).1), .int .i64 (((q + 7) / 8 : Nat) : Int), .int .i64 0]) ∧ q ≤ 8 * S.size ∧ Below w.heap.size w w') ∨ (∃ er, r = .error er ∧ er ≠ 0 ∧ e = .returned (.tuple #[.string ⟨#[]⟩, .int .i64 0, .int .i64 (er : Int)]) ∧ Below w.heap.size w w') := by
 have hSs : S.size ≤ 100000000 := by
  rw [hS, ByteArray.size_extract]; omega
 have HBL : Hid (Calls _ _ _ _ _) := qp0 s S a most r w ha hm hs hS h
 have HH : Hid (qbt (bF8 S) (8 * S.size) most (8 * S.size + 1) 0 0 [] = r) := h
 clear h hS
 go_enter Tryz.func7, Tryz.ntmps7
 go_wp2_with fail
 refine (Hid.out HBL : Calls _ _ _ _ _).mono ?_
 clear HBL
 rintro e w1 (⟨l, q, v, rfl, rfl, hO, hq, hll, hB⟩ | ⟨er, rfl, her, rfl, hB⟩)
 · have hout := qn7 _ _ _ _ _ _ (Nat.zero_le _) (by simp [jkP]) HH.out
   have hje := q4n hO
   have HJ : Hid (Calls _ _ _ _ _) := qzo w.heap.size v l w1 hO (by rw [hje]; omega) (by omega)
   rw [hje] at HJ
   have HB : Hid (Below w.heap.size w w1) := hB
   clear hO hB hje hout HH
   obtain ⟨x, hx⟩ : ∃ x, x = bs (expF 9223372036854775807 (jkP (l.map Prod.fst)) []).1 := ⟨_, rfl⟩
   rw [← hx] at HJ
   have HX : Hid (x = bs (expF 9223372036854775807 (jkP (l.map Prod.fst)) []).1) := hx
   obtain ⟨n, hn⟩ : ∃ n, n = (((q + 7) / 8 : Nat) : Int) := ⟨_, rfl⟩
   rw [← hn]
   have HNN : Hid (n = (((q + 7) / 8 : Nat) : Int)) := hn
   clear hx hn
   go_wp2_with fail
   refine (Hid.out HJ : Calls _ _ _ _ _).mono ?_
   rintro e w2 ⟨rfl, hb2⟩
   have HB2 : Hid (Below w.heap.size w w2) := HB.out.trans (hb2.mono HB.out.size)
   clear hb2 HJ
   go_wp2
   exact bodyPost_ret (v := .tuple #[.string x, .int .i64 n, .int .i64 0]) (by simp [results, Tryz.results7, go_sem]) rfl (.inl ⟨_, _, rfl, by rw [HX.out, HNN.out], hq, HB2.out⟩)
 · have HB : Hid (Below w.heap.size w w1) := hB
   have heri : ((er : Int) != 0) = true := by simpa using her
   clear hB HH
   go_wp2
   exact bodyPost_ret (v := .tuple #[.string ⟨#[]⟩, .int .i64 0, .int .i64 (er : Int)]) (by simp [results, Tryz.results7, go_sem]) rfl (.inr ⟨er, rfl, her, rfl, HB.out⟩)
theorem qwm (k : Nat) (h : k < 288) : fixL[k]? = some (if 144 ≤ k ∧ k < 256 then 9 else if 256 ≤ k ∧ k < 280 then 7 else 8) := by
 have key : ∀ k : Fin 288, fixL[k.val]? = some (if 144 ≤ k.val ∧ k.val < 256 then 9 else if 256 ≤ k.val ∧ k.val < 280 then 7 else 8) := by decide +kernel
 exact key ⟨k, h⟩
theorem qv5 (l : List Nat) (k x : Nat) (h : l[k]? = some x) : nc (l.take (k + 1)) = nc (l.take k) ++ [.int .i64 (x : Int)] := by
 unfold nc
 rw [List.take_add_one, h, List.map_append]
 rfl
theorem qe1 (w : World) (x : Nat) : ∀ j u, [Value.int .i64 (x : Int)][j]? = some u → (w.alloc (.cells #[.int .i64 (x : Int)] 3)).cell? ((⟨w.heap.size, 0, none⟩ : Addr).add j) = some u :=
 fun j u hu => by
  have hadd : (⟨w.heap.size, 0, none⟩ : Addr).add j = ⟨w.heap.size, j, none⟩ := by unfold Addr.add; split <;> simp_all
  rw [hadd, cell_of_row _ _ _ _ _ _ (heap_alloc_new w _)]
  simpa using hu
theorem qe0 (x : Int) : ∀ u ∈ [Value.int .i64 x], u.oneCell' = true := by
 intro u hu
 rw [List.mem_singleton] at hu
 subst hu; rfl
theorem qwn (k : Nat) (h : k < 32) : fixD[k]? = some 5 := by
 have key : ∀ k : Fin 32, fixD[k.val]? = some 5 := by decide +kernel
 exact key ⟨k, h⟩
theorem qvz {w : World} {B n m : Nat} {v u : Value} {xs ys : List Value} {g : Nat} (h1 : w.ownsRow B 3 1 v n xs) (h2 : w.ownsRow B 3 1 u m ys) (hn : 0 < n) (hm : 0 < m) (hne : xs[0]? ≠ ys[0]?) (hg : u.ownBlock = some g) : some g ≠ v.ownBlock := by
 intro e
 obtain ⟨g1, c1, rfl, _, _, _⟩ := qch h1 hn
 obtain ⟨g2, c2, rfl, _, _, _⟩ := qch h2 hm
 simp only [Value.ownBlock, Option.some.injEq] at e hg
 subst e
 subst hg
 exact hne (by rw [← h1.cellAt 0 (by omega), ← h2.cellAt 0 (by omega)])
theorem qte (w : World) : Calls Tryz.prog 39 #[] w fun e w' => ∃ v u, e = .returned (.tuple #[v, u]) ∧ w'.ownsRow w.heap.size 3 1 v 288 (nc fixL) ∧ w'.ownsRow w.heap.size 3 1 u 32 (nc fixD) ∧ Below w.heap.size w w' := by
 obtain ⟨i0, hi, hz0, hz1, hz2⟩ := info_parts Tryz.infoIq
 go_enter Tryz.func39, Tryz.ntmps39
 go_wp2
 have HO0 : Hid (((w.alloc (.cells #[] 3)).alloc (.cells #[] 3)).ownsRow w.heap.size 3 1 (.slice (some ⟨w.heap.size, 0, none⟩) 0 0) 0 (nc (fixL.take 0))) := (World.ownsRow_lit w #[] 0 (Nat.le_refl _) (by decide) rfl).alloc _
 have HE0 : Hid (((w.alloc (.cells #[] 3)).alloc (.cells #[] 3)).heap[w.heap.size + 1]? = some (.cells #[] 3 (0, 0))) := by
  have := heap_alloc_new (w.alloc (.cells #[] 3)) (.cells #[] 3)
  rw [World.size_alloc] at this
  exact this
 have HB0 : Hid (Below w.heap.size w ((w.alloc (.cells #[] 3)).alloc (.cells #[] 3))) := ((Below.refl _ w).alloc (Nat.le_refl _) _).alloc (by rw [World.size_alloc]; omega) _
 generalize World.alloc (World.alloc w _) _ = W1 at *
 go_loopw [2, 4] (fun a i wr => ∃ k : Nat, k ≤ 288 ∧ i = .int .i64 (k : Int) ∧ wr.ownsRow w.heap.size 3 1 a k (nc (fixL.take k)) ∧ (k = 0 → a = .slice (some ⟨w.heap.size, 0, none⟩) 0 0) ∧ wr.heap[w.heap.size + 1]? = some (.cells #[] 3 (0, 0)) ∧ Below w.heap.size w wr) (fun _ i _ => 288 - (intOf i).toNat)
 case atStart => exact ⟨0, by omega, rfl, HO0.out, fun _ => rfl, HE0.out, HB0.out⟩
 case round =>
  clear HO0 HE0 HB0
  obtain ⟨k, hk, rfl, hO, hk0, hE, hB⟩ := hrel
  have hsz := hB.size
  obtain ⟨ao, co, rfl⟩ := qam hO
  have HNE : Hid (some (w.heap.size + 1) ≠ (Value.slice ao k co).ownBlock) := by
   intro e
   rcases hO.2 with ⟨hv, _⟩ | ⟨g, cap, cur, hv, _, hh, hc1, _, hc2, _⟩
   · rw [hv] at e; simp [Value.ownBlock] at e
   · by_cases hkz : k = 0
     · rw [hk0 hkz] at e
       simp [Value.ownBlock] at e
     · rw [hv] at e
       simp only [Value.ownBlock, Option.some.injEq] at e
       subst e
       rw [hE] at hh
       simp only [Option.some.injEq, Obj.cells.injEq] at hh
       rw [← hh.1] at hc2
       simp at hc2
       omega
  have HE : Hid (wr.heap[w.heap.size + 1]? = some (.cells #[] 3 (0, 0))) := hE
  have HB : Hid (Below w.heap.size w wr) := hB
  by_cases hlt : k < 288
  · obtain ⟨n, hn⟩ : ∃ n, n = (if 144 ≤ k ∧ k < 256 then 9 else if 256 ≤ k ∧ k < 280 then 7 else 8) := ⟨_, rfl⟩
    have HTK : Hid (nc (fixL.take (k + 1)) = nc (fixL.take k) ++ [.int .i64 (n : Int)]) := qv5 fixL k n (by rw [qwm k hlt, hn])
    have hlti : (k : Int) < 288 := by omega
    have HO : Hid (wr.ownsRow w.heap.size 3 1 (.slice ao k co) k (nc (fixL.take k))) := hO
    have step : ∀ (n' : Nat), n' = n → ∀ v8 w8, w8.ownsRow w.heap.size 3 1 v8 (k + 1) (nc (fixL.take k) ++ [.int .i64 (n' : Int)]) → (wr.alloc (.cells #[.int .i64 (n' : Int)] 3)).grownBy w8 (Value.slice ao k co).ownBlock → w8.ownsRow w.heap.size 3 1 v8 (k + 1) (nc (fixL.take (k + 1))) ∧ w8.heap[w.heap.size + 1]? = some (.cells #[] 3 (0, 0)) ∧ Below w.heap.size w w8 := by
     intro n' hn' v8 w8 h1 h2
     subst hn'
     refine ⟨by rw [HTK.out]; exact h1, ?_, ?_⟩
     · exact (h2.block (w.heap.size + 1) (by rw [World.size_alloc]; have := (Array.getElem?_eq_some_iff.1 HE.out).1; omega) HNE.out).trans ((qco _ _).2 _ _ _ _ HE.out (by decide) (by decide))
     · exact (HB.out.alloc hsz _).grown h2 (by rw [World.size_alloc]; omega) (fun q hq => (HO.out.lt q hq).1)
    have HST : Hid _ := step
    clear step hO hk0 hE hB
    by_cases h1 : 144 ≤ k ∧ k < 256
    · have HN9 : Hid ((9 : Nat) = n) := by unfold Hid; rw [hn]; rw [if_pos h1]
      have a1 : (144 : Int) ≤ (k : Int) := by omega
      have a2 : (k : Int) < 256 := by omega
      have a3 : ¬ (256 : Int) ≤ (k : Int) := by omega
      have HN1 : Hid _ := qe1 wr 9
      clear hn
      go_wp2_with (at_builtin; refine wpList_append_own _ rfl _ _ 39 rfl w.heap.size 3 i0 (.int .i64 0) 1 8 Tryz.underlying39 hi hz0 hz1 hz2 rfl (by decide) _ _ _ rfl (HO.out.alloc _) ⟨wr.heap.size, 0, none⟩ 1 1 [.int .i64 (9 : Int)] rfl rfl HN1.out (qe0 _) (by unfold maxLen; omega) (by omega) (by simp; omega) ?_)
      intro v8 w8 hown hg _
      obtain ⟨hO8, hE8, hB8⟩ := HST.out 9 HN9.out v8 w8 hown hg
      have HO8 : Hid _ := hO8
      have HE8 : Hid _ := hE8
      have HB8 : Hid _ := hB8
      clear hown hg hO8 hE8 hB8
      go_wp2
      go_roundw
      case rel => exact ⟨k + 1, by omega, by go_num, HO8.out, fun h => by omega, HE8.out, HB8.out⟩
      case measure => simp [intOf]; omega
    · by_cases h2 : 256 ≤ k ∧ k < 280
      · have HN9 : Hid ((7 : Nat) = n) := by unfold Hid; rw [hn]; rw [if_neg h1, if_pos h2]
        have a1 : (144 : Int) ≤ (k : Int) := by omega
        have a2 : ¬ (k : Int) < 256 := by omega
        have a3 : (256 : Int) ≤ (k : Int) := by omega
        have a4 : (k : Int) < 280 := by omega
        have HN1 : Hid _ := qe1 wr 7
        clear hn
        go_wp2_with (at_builtin; refine wpList_append_own _ rfl _ _ 39 rfl w.heap.size 3 i0 (.int .i64 0) 1 8 Tryz.underlying39 hi hz0 hz1 hz2 rfl (by decide) _ _ _ rfl (HO.out.alloc _) ⟨wr.heap.size, 0, none⟩ 1 1 [.int .i64 (7 : Int)] rfl rfl HN1.out (qe0 _) (by unfold maxLen; omega) (by omega) (by simp; omega) ?_)
        intro v8 w8 hown hg _
        obtain ⟨hO8, hE8, hB8⟩ := HST.out 7 HN9.out v8 w8 hown hg
        have HO8 : Hid _ := hO8
        have HE8 : Hid _ := hE8
        have HB8 : Hid _ := hB8
        clear hown hg hO8 hE8 hB8
        go_wp2
        go_roundw
        case rel => exact ⟨k + 1, by omega, by go_num, HO8.out, fun h => by omega, HE8.out, HB8.out⟩
        case measure => simp [intOf]; omega
      · by_cases h3 : k < 144
        · have HN9 : Hid ((8 : Nat) = n) := by unfold Hid; rw [hn]; rw [if_neg h1, if_neg h2]
          have a1 : ¬ (144 : Int) ≤ (k : Int) := by omega
          have a2 : (k : Int) < 256 := by omega
          have a3 : ¬ (256 : Int) ≤ (k : Int) := by omega
          have HN1 : Hid _ := qe1 wr 8
          clear hn
          go_wp2_with (at_builtin; refine wpList_append_own _ rfl _ _ 39 rfl w.heap.size 3 i0 (.int .i64 0) 1 8 Tryz.underlying39 hi hz0 hz1 hz2 rfl (by decide) _ _ _ rfl (HO.out.alloc _) ⟨wr.heap.size, 0, none⟩ 1 1 [.int .i64 (8 : Int)] rfl rfl HN1.out (qe0 _) (by unfold maxLen; omega) (by omega) (by simp; omega) ?_)
          intro v8 w8 hown hg _
          obtain ⟨hO8, hE8, hB8⟩ := HST.out 8 HN9.out v8 w8 hown hg
          have HO8 : Hid _ := hO8
          have HE8 : Hid _ := hE8
          have HB8 : Hid _ := hB8
          clear hown hg hO8 hE8 hB8
          go_wp2
          go_roundw
          case rel => exact ⟨k + 1, by omega, by go_num, HO8.out, fun h => by omega, HE8.out, HB8.out⟩
          case measure => simp [intOf]; omega
        · have HN9 : Hid ((8 : Nat) = n) := by unfold Hid; rw [hn]; rw [if_neg h1, if_neg h2]
          have a1 : (144 : Int) ≤ (k : Int) := by omega
          have a2 : ¬ (k : Int) < 256 := by omega
          have a3 : (256 : Int) ≤ (k : Int) := by omega
          have a4 : ¬ (k : Int) < 280 := by omega
          have HN1 : Hid _ := qe1 wr 8
          clear hn
          go_wp2_with (at_builtin; refine wpList_append_own _ rfl _ _ 39 rfl w.heap.size 3 i0 (.int .i64 0) 1 8 Tryz.underlying39 hi hz0 hz1 hz2 rfl (by decide) _ _ _ rfl (HO.out.alloc _) ⟨wr.heap.size, 0, none⟩ 1 1 [.int .i64 (8 : Int)] rfl rfl HN1.out (qe0 _) (by unfold maxLen; omega) (by omega) (by simp; omega) ?_)
          intro v8 w8 hown hg _
          obtain ⟨hO8, hE8, hB8⟩ := HST.out 8 HN9.out v8 w8 hown hg
          have HO8 : Hid _ := hO8
          have HE8 : Hid _ := hE8
          have HB8 : Hid _ := hB8
          clear hown hg hO8 hE8 hB8
          go_wp2
          go_roundw
          case rel => exact ⟨k + 1, by omega, by go_num, HO8.out, fun h => by omega, HE8.out, HB8.out⟩
          case measure => simp [intOf]; omega
  · obtain rfl : k = 288 := by omega
    have hf : fixL.take 288 = fixL := by decide +kernel
    rw [hf] at hO
    have HO : Hid (wr.ownsRow w.heap.size 3 1 (.slice ao 288 co) 288 (nc fixL)) := hO
    have HD0 : Hid (wr.ownsRow w.heap.size 3 1 (.slice (some ⟨w.heap.size + 1, 0, none⟩) 0 0) 0 (nc (fixD.take 0))) := ⟨rfl, .inr ⟨w.heap.size + 1, 0, #[], rfl, by omega, HE.out, Nat.le_refl _, by decide, rfl, rfl⟩⟩
    clear hO hk0 hE hB
    go_wp2
    go_loopw [3] (fun a wq => ∃ j : Nat, j ≤ 32 ∧ wq.ownsRow w.heap.size 3 1 a j (nc (fixD.take j)) ∧ (j = 0 → a = .slice (some ⟨w.heap.size + 1, 0, none⟩) 0 0) ∧ wq.ownsRow w.heap.size 3 1 (.slice ao 288 co) 288 (nc fixL) ∧ Below w.heap.size w wq) (fun a _ => 32 - lenV a)
    case atStart => exact ⟨0, by omega, HD0.out, fun _ => rfl, HO.out, HB.out⟩
    case round =>
     clear HO HD0 HB HE
     obtain ⟨j, hj, hD, hj0, hO, hB⟩ := hrel
     have hsz := hB.size
     obtain ⟨ad, cd, rfl⟩ := qam hD
     obtain ⟨g, cap, hform, hg0, hg1, hg2⟩ := qch hO (by decide)
     simp only [Value.slice.injEq, true_and] at hform
     obtain ⟨rfl, rfl⟩ := hform
     have hne : some g ≠ (Value.slice ad j cd).ownBlock := by
      by_cases hjz : j = 0
      · rw [hj0 hjz]
        exact fun e => HNE.out e.symm
      · refine qvz hD hO (by omega) (by decide) ?_ rfl
        rw [show (nc (fixD.take j))[0]? = some (.int .i64 5) by
         unfold nc; rw [List.getElem?_map, List.getElem?_take, if_pos (by omega), qwn 0 (by decide)]; rfl]
        rw [show (nc fixL)[0]? = some (.int .i64 8) by unfold nc; rw [List.getElem?_map, qwm 0 (by decide)]; rfl]
        intro h
        simp at h
     by_cases hlt : j < 32
     · have HTK : Hid (nc (fixD.take (j + 1)) = nc (fixD.take j) ++ [.int .i64 ((5 : Nat) : Int)]) := qv5 fixD j 5 (qwn j hlt)
       have hlti : (j : Int) < 32 := by omega
       have HN1 : Hid _ := qe1 wr 5
       have HOK : Hid (∀ w8, (wr.alloc (.cells #[.int .i64 5] 3)).grownBy w8 (Value.slice ad j cd).ownBlock → w8.ownsRow w.heap.size 3 1 (.slice (some ⟨g, 0, none⟩) 288 co) 288 (nc fixL)) := fun w8 hg => (hO.alloc _).kept hg (.inr hne)
       have HDD : Hid (wr.ownsRow w.heap.size 3 1 (.slice ad j cd) j (nc (fixD.take j))) := hD
       have HB : Hid (Below w.heap.size w wr) := hB
       clear hD hO hB hj0 hne
       go_wp2_with (at_builtin; refine wpList_append_own _ rfl _ _ 39 rfl w.heap.size 3 i0 (.int .i64 0) 1 8 Tryz.underlying39 hi hz0 hz1 hz2 rfl (by decide) _ _ _ rfl (HDD.out.alloc _) ⟨wr.heap.size, 0, none⟩ 1 1 [.int .i64 (5 : Int)] rfl rfl HN1.out (qe0 _) (by unfold maxLen; omega) (by omega) (by simp; omega) ?_)
       intro v8 w8 hown hg _
       have hO8 : w8.ownsRow w.heap.size 3 1 v8 (j + 1) (nc (fixD.take (j + 1))) := by rw [HTK.out]; exact hown
       have HO8 : Hid (w8.ownsRow w.heap.size 3 1 v8 (j + 1) (nc (fixD.take (j + 1)))) := hO8
       have HL8 : Hid _ := HOK.out w8 hg
       have HB8 : Hid (Below w.heap.size w w8) := (HB.out.alloc hsz _).grown hg (by rw [World.size_alloc]; omega) (fun q hq => (HDD.out.lt q hq).1)
       obtain ⟨a8, c8, rfl⟩ := qam hO8
       clear hown hg hO8 HOK HDD HB
       go_wp2
       go_roundw
       case rel => exact ⟨_, _, _, _, _, _, _, ⟨j + 1, by omega, HO8.out, fun h => by omega, HL8.out, HB8.out⟩, rfl⟩
       case measure => simp [lenV]; omega
     · obtain rfl : j = 32 := by omega
       have hf2 : fixD.take 32 = fixD := by decide +kernel
       rw [hf2] at hD
       go_wp2
       go_ret2
       exact ⟨_, _, rfl, hO, hD, hB⟩
def rzA : List Nat := [3, 4, 5, 6, 7, 8, 9, 10, 11, 13, 15, 17, 19, 23, 27, 31, 35, 43, 51, 59, 67, 83, 99, 115, 131, 163, 195, 227, 258]
def rzB : List Nat := [0, 0, 0, 0, 0, 0, 0, 0, 1, 1, 1, 1, 2, 2, 2, 2, 3, 3, 3, 3, 4, 4, 4, 4, 5, 5, 5, 5, 0]
def rzC : List Nat := [1, 2, 3, 4, 5, 7, 9, 13, 17, 25, 33, 49, 65, 97, 129, 193, 257, 385, 513, 769, 1025, 1537, 2049, 3073, 4097, 6145, 8193, 12289, 16385, 24577]
def rzD : List Nat := [0, 0, 0, 0, 1, 1, 2, 2, 3, 3, 4, 4, 5, 5, 6, 6, 7, 7, 8, 8, 9, 9, 10, 10, 11, 11, 12, 12, 13, 13]
theorem rzAB : ∀ i : Fin 29, rzA[i.val]? = some (szF i.val false).1 ∧ rzB[i.val]? = some (szF i.val false).2 := by decide +kernel
theorem rzCD : ∀ i : Fin 30, rzC[i.val]? = some (szF i.val true).1 ∧ rzD[i.val]? = some (szF i.val true).2 := by decide +kernel
theorem qkd (w : World) : Calls Tryz.prog 69 #[] w fun e w' => e = .returned (.tuple #[.slice (some ⟨w.heap.size, 0, none⟩) 29 29, .slice (some ⟨w.heap.size + 1, 0, none⟩) 29 29, .slice (some ⟨w.heap.size + 2, 0, none⟩) 30 30, .slice (some ⟨w.heap.size + 3, 0, none⟩) 30 30]) ∧ w' = (((w.alloc (.cells (nc rzA).toArray 3)).alloc (.cells (nc rzB).toArray 3)).alloc (.cells (nc rzC).toArray 3)).alloc (.cells (nc rzD).toArray 3) := by
 go_enter Tryz.func69, Tryz.ntmps69
 go_wp2
 exact bodyPost_ret (v := .tuple #[.slice (some ⟨w.heap.size, 0, none⟩) 29 29, .slice (some ⟨w.heap.size + 1, 0, none⟩) 29 29, .slice (some ⟨w.heap.size + 2, 0, none⟩) 30 30, .slice (some ⟨w.heap.size + 3, 0, none⟩) 30 30]) (by simp [results, Tryz.results69, go_sem]) rfl ⟨rfl, rfl⟩
end Go.Proofs.YthkppipdflmekaaGreat
