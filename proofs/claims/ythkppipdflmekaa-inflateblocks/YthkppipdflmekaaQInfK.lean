/- Contract of Blocks. Contract of Join. -/
import Derived.Test.YthkppipdflmekaaQInfE
import Derived.Laws.AppendOwnNone
namespace Go.Proofs.Ythkppipdflmekaa
open Go.RowKit
set_option linter.unusedVariables false

theorem Try.infoBk : (Try.prog.info? 37).map (fun i => (i.zero, i.size, i.bytes)) = some (some (.agg #[.int .i64 0, .string ⟨#[]⟩, .slice none 0 0]), 3, 48) := by kernel_rfl
/-- Blocks as they lie in memory: each with its text and the slice of its tokens. -/
abbrev Item := Blk × ByteArray × Value
def bcs (l : List Item) : List Value := l.flatMap fun x => [.int .i64 (x.1.kind : Int), .string x.2.1, x.2.2]
theorem bcs_snoc (l : List Item) (x : Item) : bcs (l ++ [x]) = bcs l ++ [.int .i64 (x.1.kind : Int), .string x.2.1, x.2.2] := by
  unfold bcs; rw [List.flatMap_append]; simp
def BItem (w : World) (B : Nat) (x : Item) : Prop := x.2.1.data.toList.map UInt8.toNat = x.1.bytes ∧ w.ownsRow B 43 3 x.2.2 x.1.toks.length (tcs x.1.toks)
def BRow (w : World) (B : Nat) (v : Value) (l : List Item) : Prop := w.ownsRow B 37 3 v l.length (bcs l) ∧ ∀ x ∈ l, BItem w B x
theorem BRow.nil (w : World) (B : Nat) : BRow w B (.slice none 0 0) [] := ⟨World.ownsRow_nil _ _ _ _, fun _ h => nomatch h⟩
theorem BItem.ks {w w' : World} {B : Nat} {x : Item} (h : BItem w B x) (hk : KS w w') : BItem w' B x := ⟨h.1, own_ks h.2 hk (by decide) (by decide)⟩
theorem BRow.ks {w w' : World} {B : Nat} {v : Value} {l : List Item} (h : BRow w B v l) (hk : KS w w') : BRow w' B v l := ⟨own_ks h.1 hk (by decide) (by decide), fun x hx => (h.2 x hx).ks hk⟩
theorem k1_app {w w' : World} {C n sz : Nat} {ty : TypeId} {v : Value} {xs : List Value} (hO : w.ownsRow C ty sz v n xs) (hg : w.grownBy w' v.ownBlock) : K1 ty w w' :=
  ⟨hg.size, fun b c t q hc h1 => (hg.block b (Array.getElem?_eq_some_iff.1 hc).1 (own_ne hO hc h1)).trans hc⟩
theorem BItem.k1 {w w' : World} {B : Nat} {x : Item} (h : BItem w B x) (hk : K1 37 w w') : BItem w' B x := ⟨h.1, own_k1 h.2 hk (by decide)⟩
theorem three_newB (w : World) (x y z : Value) (ty : TypeId) : ∀ j u, [x, y, z][j]? = some u → (w.alloc (.cells #[x, y, z] ty)).cell? ((⟨w.heap.size, 0, none⟩ : Addr).add j) = some u :=
  fun j u hu => by
    have hadd : (⟨w.heap.size, 0, none⟩ : Addr).add j = ⟨w.heap.size, j, none⟩ := by unfold Addr.add; split <;> simp_all
    rw [hadd, cell_of_row _ _ _ _ _ _ (heap_alloc_new w _)]
    simpa using hu
theorem three_oneB (k : Int) (t : ByteArray) (a : Option Addr) (l c : Nat) : ∀ u ∈ [Value.int .i64 k, .string t, .slice a l c], u.oneCell' = true := by
  intro u hu
  simp only [List.mem_cons, List.not_mem_nil, or_false] at hu
  rcases hu with rfl | rfl | rfl <;> rfl
theorem rd_new {w : World} {B gx : Nat} {s : ByteArray} (most : Nat) (hS : SrcAt w gx s 0) (h1 : B ≤ gx) (h2 : B ≤ w.heap.size) : RdAt (w.alloc (.cells #[.pointer (some ⟨gx, 0, none⟩), .int .i64 (most : Int), .int .i64 0, .pointer none] 51)) B w.heap.size gx s 0 most 0 :=
  ⟨h2, h1, hS.below ((Below.refl _ w).alloc (Nat.le_refl _) _), none, heap_alloc_new w _, .inl rfl⟩
set_option maxRecDepth 100000 in
set_option maxHeartbeats 4000000 in
theorem blocks_good (s S : ByteArray) (a most : Nat) (r : Except Nat (List Blk × Nat)) (w : World) (ha : a ≤ s.size) (hm : most ≤ 65536) (hs : s.size ≤ 100000000) (hS : S = s.extract a s.size) (h : blksF (bF8 S) (8 * S.size) most (8 * S.size + 1) 0 0 [] = r) :
    Calls Try.prog 5 #[.string s, .int .i64 (a : Int), .int .i64 (most : Int)] w fun e w' => (∃ l q v, r = .ok (l.map Prod.fst, q) ∧ e = .returned (.tuple #[v, .int .i64 (((q + 7) / 8 : Nat) : Int), .int .i64 0]) ∧ BRow w' w.heap.size v l ∧ q ≤ 8 * S.size ∧ l.length ≤ 8 * S.size ∧ Below w.heap.size w w') ∨ (∃ er, r = .error er ∧ er ≠ 0 ∧ e = .returned (.tuple #[.slice none 0 0, .int .i64 0, .int .i64 (er : Int)]) ∧ Below w.heap.size w w') := by
  obtain ⟨i0, hi, hz0, hz1, hz2⟩ := info_parts Try.infoBk
  have hSs : S.size ≤ 100000000 := by
    rw [hS, ByteArray.size_extract]; omega
  have g1 : ¬ (a : Int) < 0 := by omega
  have g2 : ¬ (s.size : Int) < (a : Int) := by omega
  have g3 : ¬ (most : Int) < 0 := by omega
  have g4 : ¬ (65536 : Int) < (most : Int) := by omega
  have g5 : (a : Int) ≤ (s.size : Int) := by omega
  have HOF : Hid (∀ W, Calls Try.prog 11 #[.string S] W fun e w' => ∃ g, e = .returned (.pointer (some ⟨g, 0, none⟩)) ∧ SrcAt w' g S 0 ∧ W.heap.size ≤ g ∧ Below W.heap.size W w') := fun W => srcOf_any S W
  have HH : Hid (blksF (bF8 S) (8 * S.size) most (8 * S.size + 1) 0 0 [] = r) := h
  have hS' := hS.symm
  clear h hS
  go_enter Try.func5, Try.ntmps5
  go_wp2_with fail
  refine (HOF.out w).mono ?_
  rintro e w1 ⟨gx, rfl, hX, hgx, hb1⟩
  have HR0 : Hid (RdAt (w1.alloc (.cells #[.pointer (some ⟨gx, 0, none⟩), .int .i64 (most : Int), .int .i64 0, .pointer none] 51)) w.heap.size w1.heap.size gx S 0 most 0) := rd_new most hX hgx hb1.size
  have HB0 : Hid (Below w.heap.size w (w1.alloc (.cells #[.pointer (some ⟨gx, 0, none⟩), .int .i64 (most : Int), .int .i64 0, .pointer none] 51))) := hb1.alloc hb1.size _
  clear HOF hX hgx hb1 g1 g2 g3 g4 g5 hS'
  go_wp2
  generalize World.alloc w1 _ = W1 at *
  generalize w1.heap.size = gr at *
  go_loopw [10] (fun v wr => ∃ (p' o' F' : Nat) (l : List Item), blksF (bF8 S) (8 * S.size) most F' p' o' (l.map Prod.fst) = r ∧ 8 * S.size < p' + F' ∧ p' ≤ 8 * S.size ∧ o' ≤ most ∧ l.length ≤ p' ∧ BRow wr w.heap.size v l ∧ RdAt wr w.heap.size gr gx S p' most o' ∧ Below w.heap.size w wr) (fun v _ => 8 * S.size + 1 - lenV v)
  case atStart => exact ⟨0, 0, _, [], HH.out, by omega, Nat.zero_le _, Nat.zero_le _, Nat.zero_le _, BRow.nil _ _, HR0.out, HB0.out⟩
  case round =>
    clear HH HR0 HB0
    obtain ⟨p', o', F', l, hT, hF', hp', ho', hl, hO, hR, hB⟩ := hrel
    obtain ⟨F2, rfl⟩ : ∃ F2, F' = F2 + 1 := ⟨F' - 1, by omega⟩
    obtain ⟨av, cv, rfl⟩ := own_slice hO.1
    rw [blksF] at hT
    generalize hbk : blkF (bF8 S) (8 * S.size) most p' o' = bk at hT
    have HBK : Hid (Calls _ _ _ _ _) := block_any w.heap.size gr gx S p' most o' bk wr hR hSs hp' ho' (by omega) hbk
    have HT : Hid (_ = r) := hT
    have HO : Hid (BRow wr w.heap.size (.slice av l.length cv) l) := hO
    have HB : Hid (Below w.heap.size w wr) := hB
    clear hbk hT hO hB hR
    go_wp2_with fail
    refine (Hid.out HBK : Calls _ _ _ _ _).mono ?_
    clear HBK
    rintro e w3 (⟨b, last, q, o, t, va, vl, vc, rfl, rfl, hV, hq, hpq, hom, hR3, hK3, hB3⟩ | ⟨er, bb, kx, t, va, vl, vc, rfl, her, rfl, hK3, hB3⟩)
    · have hB3' : Below w.heap.size w w3 := HB.out.trans hB3
      have hsw : w.heap.size ≤ w3.heap.size := hB3'.size
      have hsr : w.heap.size ≤ wr.heap.size := HB.out.size
      have hA4 : Below w3.heap.size w3 (w3.alloc (.cells #[.int .i64 (b.kind : Int), .string t, .slice va vl vc] 37)) := (Below.refl _ w3).alloc (Nat.le_refl _) _
      have hA5 : Below w3.heap.size w3 ((w3.alloc (.cells #[.int .i64 (b.kind : Int), .string t, .slice va vl vc] 37)).alloc (.cells #[.int .i64 (b.kind : Int), .string t, .slice va vl vc] 37)) := hA4.alloc hA4.size _
      obtain ⟨tt, vv, hx, hy, hz⟩ := hV
      simp only [Value.agg.injEq, Array.mk.injEq, List.cons.injEq, Value.string.injEq, and_true, true_and] at hx
      obtain ⟨rfl, rfl⟩ := hx
      have HI : Hid (BItem ((w3.alloc (.cells #[.int .i64 (b.kind : Int), .string t, .slice va vl vc] 37)).alloc (.cells #[.int .i64 (b.kind : Int), .string t, .slice va vl vc] 37)) w.heap.size (b, t, .slice va vl vc)) := ⟨hy, own_ks (hz.mono hsr) (ks_below hA5) (by decide) (by decide)⟩
      have HO5 : Hid (BRow ((w3.alloc (.cells #[.int .i64 (b.kind : Int), .string t, .slice va vl vc] 37)).alloc (.cells #[.int .i64 (b.kind : Int), .string t, .slice va vl vc] 37)) w.heap.size (.slice av l.length cv) l) := HO.out.ks (hK3.trans (ks_below hA5))
      have HR5 : Hid (RdAt ((w3.alloc (.cells #[.int .i64 (b.kind : Int), .string t, .slice va vl vc] 37)).alloc (.cells #[.int .i64 (b.kind : Int), .string t, .slice va vl vc] 37)) w.heap.size gr gx S q most o) := hR3.below hA5
      have HB5 : Hid (Below w.heap.size w ((w3.alloc (.cells #[.int .i64 (b.kind : Int), .string t, .slice va vl vc] 37)).alloc (.cells #[.int .i64 (b.kind : Int), .string t, .slice va vl vc] 37))) := hB3'.trans (hA5.mono hsw)
      have h3n := three_newB (w3.alloc (.cells #[.int .i64 (b.kind : Int), .string t, .slice va vl vc] 37)) (.int .i64 (b.kind : Int)) (.string t) (.slice va vl vc) 37
      rw [World.size_alloc] at h3n
      have HN3 : Hid _ := h3n
      have HONE : Hid _ := three_oneB (b.kind : Int) t va vl vc
      have HLL : Hid (l.length ≤ 8 * S.size) := by unfold Hid; omega
      clear h3n hy hz hA4 hA5 hB3' hR3 hK3 hB3 HO HB hsr
      go_wp2_with (at_builtin; refine wpList_append_own _ rfl _ _ 23 rfl w.heap.size 37 i0 (.agg #[.int .i64 0, .string ⟨#[]⟩, .slice none 0 0]) 3 48 Try.underlying23 hi hz0 hz1 hz2 rfl (by decide) _ _ _ rfl HO5.out.1 ⟨w3.heap.size + 1, 0, none⟩ 1 1 [.int .i64 (b.kind : Int), .string t, .slice va vl vc] rfl rfl HN3.out HONE.out (by have := HLL.out; unfold maxLen; omega) (by have := HLL.out; omega) (by simp; omega) ?_)
      intro v8 w8 hown8 hg8 _
      have hk8 := k1_app HO5.out.1 hg8
      have hO8 : BRow w8 w.heap.size v8 (l ++ [(b, t, .slice va vl vc)]) := by
        refine ⟨by rw [bcs_snoc, List.length_append]; exact hown8, fun x hx => ?_⟩
        rcases List.mem_append.1 hx with hx | hx
        · exact (HO5.out.2 x hx).k1 hk8
        · rw [List.mem_singleton] at hx; subst hx; exact HI.out.k1 hk8
      have HO8 : Hid (BRow w8 w.heap.size v8 (l ++ [(b, t, .slice va vl vc)])) := hO8
      have hR8 : RdAt w8 w.heap.size gr gx S q most o := HR5.out.k1 hk8 foreignB
      have HR8 : Hid (RdAt w8 w.heap.size gr gx S q most o) := hR8
      have HB8 : Hid (Below w.heap.size w w8) := HB5.out.grown hg8 HB5.out.size (fun q hq => (HO5.out.1.lt q hq).1)
      have HT8 : Hid ((if last = 1 then .ok ((l ++ [((b, t, .slice va vl vc) : Item)]).map Prod.fst, q) else blksF (bF8 S) (8 * S.size) most F2 q o ((l ++ [((b, t, .slice va vl vc) : Item)]).map Prod.fst)) = r) := by
        unfold Hid; rw [← HT.out, List.map_append]; rfl
      obtain ⟨a8, c8, rfl⟩ := own_slice hO8.1
      have d0 := hR8.cell0
      have HP : Hid (Calls _ _ _ _ _) := place_any gx S q w8 hR8.2.2.1
      clear hown8 hg8 hk8 hO8 hR8 HO5 HR5 HB5 HI HN3 HONE HT
      by_cases hlast : last = 1
      · subst hlast
        have HRE : Hid (.ok ((l ++ [((b, t, .slice va vl vc) : Item)]).map Prod.fst, q) = r) := by unfold Hid; rw [← HT8.out, if_pos rfl]
        clear HT8
        have hqi : ((q : Int) + 7) / 8 = (((q + 7) / 8 : Nat) : Int) := by omega
        go_wp2_with fail
        refine (Hid.out HP : Calls _ _ _ _ _).mono ?_
        rintro e w9 ⟨rfl, hw9⟩
        obtain rfl : w8 = w9 := hw9.symm
        clear hw9 HP
        go_wp2
        exact bodyPost_ret (v := .tuple #[.slice a8 (l ++ [((b, t, .slice va vl vc) : Item)]).length c8, .int .i64 (((q + 7) / 8 : Nat) : Int), .int .i64 0]) (by simp [results, Try.results5, go_sem]) rfl (.inl ⟨_, _, _, HRE.out.symm, rfl, HO8.out, hq, by rw [List.length_append, List.length_singleton]; omega, HB8.out⟩)
      · have hlf : decide (last = 1) = false := by simpa using hlast
        have HRE : Hid (blksF (bF8 S) (8 * S.size) most F2 q o ((l ++ [((b, t, .slice va vl vc) : Item)]).map Prod.fst) = r) := by unfold Hid; rw [← HT8.out, if_neg hlast]
        clear HT8 HP d0
        go_wp2
        go_roundw
        case rel => exact ⟨q, o, F2, _, HRE.out, by omega, hq, hom, by rw [List.length_append, List.length_singleton]; omega, HO8.out, HR8.out, HB8.out⟩
        case measure => simp [lenV]; have := HLL.out; omega
    · have heri : ((er : Int) != 0) = true := by simpa using her
      have hsr : w.heap.size ≤ w3.heap.size := (HB.out.trans hB3).size
      have HBE : Hid (Below w.heap.size w (w3.alloc (.cells #[.int .i64 kx, .string t, .slice va vl vc] 37))) := (HB.out.trans hB3).alloc hsr _
      have HRE : Hid (.error er = r) := HT.out
      clear hK3 hB3 HT HO HB hsr
      go_wp2
      exact bodyPost_ret (v := .tuple #[.slice none 0 0, .int .i64 0, .int .i64 (er : Int)]) (by simp [results, Try.results5, go_sem]) rfl (.inr ⟨er, HRE.out.symm, her, rfl, HBE.out⟩)
end Go.Proofs.Ythkppipdflmekaa
namespace Go.Proofs.Ythkppipdflmekaa
open Go.RowKit
set_option linter.unusedVariables false

/-- The tokens of blocks: a stored block's bytes as tokens. -/
def btk (x : Item) : List Tok := tok0 x.2.1 ++ x.1.toks
def jtk (l : List Item) : List Tok := l.flatMap btk
theorem jtk_take (l : List Item) (k : Nat) (x : Item) (h : l[k]? = some x) : jtk (l.take (k + 1)) = jtk (l.take k) ++ btk x := by
  unfold jtk
  rw [List.take_add_one, h, List.flatMap_append]
  simp
theorem jtk_le (l : List Item) (k : Nat) : (jtk (l.take k)).length ≤ (jtk l).length := by
  have h : jtk l = jtk (l.take k) ++ jtk (l.drop k) := by
    unfold jtk; rw [← List.flatMap_append, List.take_append_drop]
  rw [h, List.length_append]; omega
theorem bcs_at : ∀ (l : List Item) (i : Nat) (x : Item), l[i]? = some x → (bcs l)[i * 3]? = some (.int .i64 (x.1.kind : Int)) ∧ (bcs l)[i * 3 + 1]? = some (.string x.2.1) ∧ (bcs l)[i * 3 + 2]? = some x.2.2
  | [], i, x, h => by simp at h
  | y :: l, 0, x, h => by
    simp only [List.getElem?_cons_zero, Option.some.injEq] at h
    subst h
    exact ⟨rfl, rfl, rfl⟩
  | y :: l, i + 1, x, h => by
    simp only [List.getElem?_cons_succ] at h
    obtain ⟨h1, h2, h3⟩ := bcs_at l i x h
    have e : bcs (y :: l) = [.int .i64 (y.1.kind : Int), .string y.2.1, y.2.2] ++ bcs l := by unfold bcs; rw [List.flatMap_cons]
    rw [e]
    refine ⟨?_, ?_, ?_⟩
    · rw [List.getElem?_append_right (by simp; omega)]; simpa [show (i + 1) * 3 - 3 = i * 3 by omega] using h1
    · rw [List.getElem?_append_right (by simp; omega)]; simpa [show (i + 1) * 3 + 1 - 3 = i * 3 + 1 by omega] using h2
    · rw [List.getElem?_append_right (by simp; omega)]; simpa [show (i + 1) * 3 + 2 - 3 = i * 3 + 2 by omega] using h3
theorem tcs_app (a b : List Tok) : tcs (a ++ b) = tcs a ++ tcs b := by unfold tcs; rw [List.flatMap_append]
theorem tcs_one (ts : List Tok) : ∀ u ∈ tcs ts, u.oneCell' = true := by
  intro u hu
  unfold tcs at hu
  obtain ⟨t, _, ht⟩ := List.mem_flatMap.1 hu
  exact three_oneU _ _ _ u ht
set_option maxRecDepth 100000 in
set_option maxHeartbeats 4000000 in
theorem join_any (B : Nat) (v : Value) (l : List Item) (w : World) (hO : BRow w B v l) (hl : (jtk l).length ≤ 1000000) (hll : l.length ≤ 1000000000) :
    Calls Try.prog 10 #[v] w fun e w' => e = .returned (.string (bs (expF 9223372036854775807 (jtk l) []).1)) ∧ Below w.heap.size w w' := by
  obtain ⟨i0, hi, hz0, hz1, hz2⟩ := info_parts Try.infoTk
  obtain ⟨av, cv, rfl⟩ := own_slice hO.1
  have HBR : Hid (BRow w B (.slice av l.length cv) l) := hO
  clear hO
  go_enter Try.func10, Try.ntmps10
  go_wp2
  go_loopw [3, 11] (fun a i wr => ∃ k : Nat, k ≤ l.length ∧ i = .int .i64 (k : Int) ∧ wr.ownsRow w.heap.size 43 3 a (jtk (l.take k)).length (tcs (jtk (l.take k))) ∧ Below w.heap.size w wr) (fun _ i _ => l.length - (intOf i).toNat)
  case atStart => exact ⟨0, by omega, rfl, World.ownsRow_nil _ _ _ _, Below.refl _ _⟩
  case round =>
    obtain ⟨k, hk, rfl, hO, hB⟩ := hrel
    have hsz := hB.size
    by_cases hlt : k < l.length
    · obtain ⟨⟨b, t, tv⟩, hx⟩ : ∃ x, l[k]? = some x := ⟨_, List.getElem?_eq_getElem hlt⟩
      obtain ⟨hbr, hit⟩ := HBR.out
      have hitem := hit _ (List.mem_of_getElem? hx)
      obtain ⟨hby, hto⟩ := hitem
      simp only at hby hto
      obtain ⟨ta, tc, rfl⟩ := own_slice hto
      obtain ⟨g, cap, hform, hgB, hcap, hgs⟩ := own_frm0 hbr (by omega)
      simp only [Value.slice.injEq, true_and] at hform
      obtain ⟨rfl, rfl⟩ := hform
      obtain ⟨c0, c1, c2⟩ := bcs_at l k _ hx
      rw [← hbr.cellAt (k * 3) (by omega), ← hB.cell (p := ⟨g, k * 3, none⟩) hgs] at c0
      rw [← hbr.cellAt (k * 3 + 1) (by omega), ← hB.cell (p := ⟨g, k * 3 + 1, none⟩) hgs] at c1
      rw [← hbr.cellAt (k * 3 + 2) (by omega), ← hB.cell (p := ⟨g, k * 3 + 2, none⟩) hgs] at c2
      simp only at c0 c1 c2
      have HTO : Hid (w.ownsRow B 43 3 (.slice ta b.toks.length tc) b.toks.length (tcs b.toks)) := hto
      have HJ : Hid (jtk (l.take (k + 1)) = jtk (l.take k) ++ (tok0 t ++ b.toks)) := jtk_take l k _ hx
      have hjl : (jtk (l.take k)).length + t.size + b.toks.length ≤ 1000000 := by
        have h1 := jtk_le l (k + 1)
        rw [HJ.out, List.length_append, List.length_append, tok0_len] at h1
        omega
      have hki : (k : Int) < (l.length : Int) := by omega
      have hki0 : (0 : Int) ≤ (k : Int) := by omega
      obtain ⟨ao, co, rfl⟩ := own_slice hO
      have hA : Below wr.heap.size wr (wr.alloc (.cells #[.int .i64 (b.kind : Int), .string t, .slice ta b.toks.length tc] 37)) := (Below.refl _ wr).alloc (Nat.le_refl _) _
      have HO0 : Hid ((wr.alloc (.cells #[.int .i64 (b.kind : Int), .string t, .slice ta b.toks.length tc] 37)).ownsRow w.heap.size 43 3 (.slice ao (jtk (l.take k)).length co) (jtk (l.take k)).length (tcs (jtk (l.take k)))) := hO.alloc _
      have HB0 : Hid (Below w.heap.size w (wr.alloc (.cells #[.int .i64 (b.kind : Int), .string t, .slice ta b.toks.length tc] 37))) := hB.trans (hA.mono hsz)
      have HN0 : Hid ((wr.alloc (.cells #[.int .i64 (b.kind : Int), .string t, .slice ta b.toks.length tc] 37)).heap[wr.heap.size]? = some (.cells #[.int .i64 (b.kind : Int), .string t, .slice ta b.toks.length tc] 37 (0, 0))) := heap_alloc_new wr _
      clear hbr hit hby hto hx hO hB hA
      generalize hJl : jtk (l.take k) = J at *
      go_wp2
      clear c0 c1 c2
      generalize World.alloc wr _ = W0 at *
      generalize wr.heap.size = gb at *
      go_loopw [3, 18] (fun a i wq => ∃ j : Nat, j ≤ t.size ∧ i = .int .i64 (j : Int) ∧ wq.ownsRow w.heap.size 43 3 a (J.length + j) (tcs (J ++ (tok0 t).take j)) ∧ wq.heap[gb]? = some (.cells #[.int .i64 (b.kind : Int), .string t, .slice ta b.toks.length tc] 37 (0, 0)) ∧ Below w.heap.size w wq) (fun _ i _ => t.size - (intOf i).toNat)
      case atStart => exact ⟨0, by omega, rfl, by rw [List.take_zero, List.append_nil]; exact HO0.out, HN0.out, HB0.out⟩
      case round =>
        clear HO0 HN0 HB0
        obtain ⟨j, hj, rfl, hO, hN, hB⟩ := hrel
        obtain ⟨d0, d1, d2, _, _, _⟩ := tok_cell hN
        have hszq := hB.size
        by_cases hjt : j < t.size
        · have HTK : Hid ((tok0 t).take (j + 1) = (tok0 t).take j ++ [⟨byt t j, 0, 0⟩]) := tok0_take t j hjt
          have hbe := byt_eq t j hjt
          have h3n := three_newU wr ⟨byt t j, 0, 0⟩ 43
          simp only at h3n
          have HN3 : Hid _ := h3n
          have hji : (j : Int) < (t.size : Int) := by omega
          have hji0 : (0 : Int) ≤ (j : Int) := by omega
          have HNQ : Hid (wr.heap[gb]? = some (.cells #[.int .i64 (b.kind : Int), .string t, .slice ta b.toks.length tc] 37 (0, 0))) := hN
          clear h3n hN
          go_wp2_with (at_builtin; refine wpList_append_own _ rfl _ _ 35 rfl w.heap.size 43 i0 (.agg #[.int .u8 0, .int .i64 0, .int .i64 0]) 3 24 Try.underlying35 hi hz0 hz1 hz2 rfl (by decide) _ _ _ rfl (hO.alloc _) ⟨wr.heap.size, 0, none⟩ 1 1 [.int .u8 (byt t j : Int), .int .i64 0, .int .i64 0] rfl rfl HN3.out ?c2 ?c3 ?c4 ?c5 ?_)
          case c2 => intro y hy; simp at hy; rcases hy with rfl | rfl <;> rfl
          case c3 => unfold maxLen; omega
          case c4 => omega
          case c5 => rw [World.size_alloc]; omega
          intro v8 w8 hown hg _
          have HO8 : Hid (w8.ownsRow w.heap.size 43 3 v8 (J.length + (j + 1)) (tcs (J ++ (tok0 t).take (j + 1)))) := by unfold Hid; rw [HTK.out, ← List.append_assoc, tcs_snoc]; exact hown
          have HB8 : Hid (Below w.heap.size w w8) := (hB.alloc hszq _).grown hg (by rw [World.size_alloc]; omega) (fun q hq => (hO.lt q hq).1)
          have HN8 : Hid (w8.heap[gb]? = some (.cells #[.int .i64 (b.kind : Int), .string t, .slice ta b.toks.length tc] 37 (0, 0))) := (k1_app (hO.alloc _) hg).2 _ _ _ _ ((ks_alloc _ _).2 _ _ _ _ HNQ.out (by decide) (by decide)) (by decide)
          clear hown hg hO hB HNQ d0 d1 d2
          go_wp2
          go_roundw
          case rel => exact ⟨j + 1, by omega, by go_num, HO8.out, HN8.out, HB8.out⟩
          case measure => simp [intOf]; omega
        · obtain rfl : j = t.size := by omega
          rw [List.take_of_length_le (by rw [tok0_len]; exact Nat.le_refl _)] at hO
          rcases HTO.out.2 with ⟨hv, hz⟩ | ⟨gt, ct, cur, hv, hgt, hh, hcc, hcm, hcs, htk⟩
          · have htl : b.toks = [] := List.eq_nil_of_length_eq_zero hz
            simp only [Value.slice.injEq] at hv
            obtain ⟨rfl, _, rfl⟩ := hv
            rw [hz] at d2
            obtain ⟨a9, c9, rfl⟩ := own_slice hO
            have HO9 : Hid (wr.ownsRow w.heap.size 43 3 (.slice a9 (J.length + t.size) c9) (jtk (l.take (k + 1))).length (tcs (jtk (l.take (k + 1))))) := by
              unfold Hid; rw [HJ.out, htl, List.append_nil, List.length_append, tok0_len]; exact hO
            have HB9 : Hid (Below w.heap.size w wr) := hB
            clear hN hB
            go_wp2_with (at_builtin; refine wpList_append_own_none rfl _ _ 35 rfl w.heap.size 43 i0 3 Try.underlying35 hi _ _ _ rfl hO rfl ?_)
            clear hO d0 d1 d2
            go_wp2
            go_roundw
            case rel => exact ⟨k + 1, by omega, by go_num, HO9.out, HB9.out⟩
            case measure => simp [intOf]; omega
          · simp only [Value.slice.injEq, true_and] at hv
            obtain ⟨rfl, rfl⟩ := hv
            have HNW : Hid (∀ i u, (tcs b.toks)[i]? = some u → wr.cell? ((⟨gt, 0, none⟩ : Addr).add i) = some u) := by
              intro i u hu
              have hc := HTO.out.cells (g := gt) rfl i u hu
              have hadd : (⟨gt, 0, none⟩ : Addr).add i = ⟨gt, i, none⟩ := by unfold Addr.add; split <;> simp_all
              rw [hadd] at hc ⊢
              rw [hB.cell (p := ⟨gt, i, none⟩) (Array.getElem?_eq_some_iff.1 hh).1]; exact hc
            have HTL : Hid ((tcs b.toks).length = b.toks.length * 3) := tcs_len _
            have HB9 : Hid (Below w.heap.size w wr) := hB
            clear hN hB hh hcs htk hcc hcm hgt
            go_wp2_with (at_builtin; refine wpList_append_own _ rfl _ _ 35 rfl w.heap.size 43 i0 (.agg #[.int .u8 0, .int .i64 0, .int .i64 0]) 3 24 Try.underlying35 hi hz0 hz1 hz2 rfl (by decide) _ _ _ rfl hO ⟨gt, 0, none⟩ b.toks.length _ (tcs b.toks) rfl HTL.out HNW.out (tcs_one _) ?c3 ?c4 ?c5 ?_)
            case c3 => unfold maxLen; omega
            case c4 => omega
            case c5 => omega
            intro v8 w8 hown hg _
            have HO8 : Hid (w8.ownsRow w.heap.size 43 3 v8 (jtk (l.take (k + 1))).length (tcs (jtk (l.take (k + 1))))) := by
              unfold Hid; rw [HJ.out, ← List.append_assoc, tcs_app, List.length_append, List.length_append, tok0_len]; exact hown
            have HB8 : Hid (Below w.heap.size w w8) := HB9.out.grown hg (by omega) (fun q hq => (hO.lt q hq).1)
            clear hown hg hO HB9 d0 d1 d2
            go_wp2
            go_roundw
            case rel => exact ⟨k + 1, by omega, by go_num, HO8.out, HB8.out⟩
            case measure => simp [intOf]; omega
    · obtain rfl : k = l.length := by omega
      rw [List.take_length] at hO
      have HE : Hid (Calls _ _ _ _ _) := expand_any _ (jtk l) 9223372036854775807 wr (TR.own hO) (by omega) (by decide) (by decide)
      have HB : Hid (Below w.heap.size w wr) := hB
      obtain ⟨ao, co, rfl⟩ := own_slice hO
      clear hO hB
      go_wp2_with fail
      refine (Hid.out HE : Calls _ _ _ _ _).mono ?_
      rintro e w9 ⟨rfl, hb9⟩
      have HB9 : Hid (Below w.heap.size w w9) := HB.out.trans (hb9.mono hsz)
      clear HE hb9
      go_wp2
      go_ret
      exact ⟨rfl, HB9.out⟩
end Go.Proofs.Ythkppipdflmekaa
