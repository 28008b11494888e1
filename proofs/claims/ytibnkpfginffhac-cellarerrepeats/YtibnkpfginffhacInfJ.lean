/- Contract of Blocks. -/
import Derived.Test.YtibnkpfginffhacInfE
namespace Go.Proofs.Ytibnkpfginffhac
open Go.RowKit
set_option linter.unusedVariables false

theorem Try.infoBk : (Try.prog.info? 107).map (fun i => (i.zero, i.size, i.bytes)) = some (some (.agg #[.int .i64 0, .string ⟨#[]⟩, .slice none 0 0]), 3, 48) := by kernel_rfl
/-- Blocks as they lie in memory: each with its text and the slice of its tokens. -/
abbrev Item := Blk × ByteArray × Value
def bcs (l : List Item) : List Value := l.flatMap fun x => [.int .i64 (x.1.kind : Int), .string x.2.1, x.2.2]
theorem bcs_snoc (l : List Item) (x : Item) : bcs (l ++ [x]) = bcs l ++ [.int .i64 (x.1.kind : Int), .string x.2.1, x.2.2] := by
  unfold bcs; rw [List.flatMap_append]; simp
def BItem (w : World) (B : Nat) (x : Item) : Prop := x.2.1.data.toList.map UInt8.toNat = x.1.bytes ∧ w.ownsRow B 57 3 x.2.2 x.1.toks.length (tcs x.1.toks)
def BRow (w : World) (B : Nat) (v : Value) (l : List Item) : Prop := w.ownsRow B 107 3 v l.length (bcs l) ∧ ∀ x ∈ l, BItem w B x
theorem BRow.nil (w : World) (B : Nat) : BRow w B (.slice none 0 0) [] := ⟨World.ownsRow_nil _ _ _ _, fun _ h => nomatch h⟩
theorem BItem.ks {w w' : World} {B : Nat} {x : Item} (h : BItem w B x) (hk : KS w w') : BItem w' B x := ⟨h.1, own_ks h.2 hk (by decide) (by decide)⟩
theorem BRow.ks {w w' : World} {B : Nat} {v : Value} {l : List Item} (h : BRow w B v l) (hk : KS w w') : BRow w' B v l := ⟨own_ks h.1 hk (by decide) (by decide), fun x hx => (h.2 x hx).ks hk⟩
theorem k1_app {w w' : World} {C n sz : Nat} {ty : TypeId} {v : Value} {xs : List Value} (hO : w.ownsRow C ty sz v n xs) (hg : w.grownBy w' v.ownBlock) : K1 ty w w' :=
  ⟨hg.size, fun b c t q hc h1 => (hg.block b (Array.getElem?_eq_some_iff.1 hc).1 (own_ne hO hc h1)).trans hc⟩
theorem BItem.k1 {w w' : World} {B : Nat} {x : Item} (h : BItem w B x) (hk : K1 107 w w') : BItem w' B x := ⟨h.1, own_k1 h.2 hk (by decide)⟩
theorem three_newB (w : World) (x y z : Value) (ty : TypeId) : ∀ j u, [x, y, z][j]? = some u → (w.alloc (.cells #[x, y, z] ty)).cell? ((⟨w.heap.size, 0, none⟩ : Addr).add j) = some u :=
  fun j u hu => by
    have hadd : (⟨w.heap.size, 0, none⟩ : Addr).add j = ⟨w.heap.size, j, none⟩ := by unfold Addr.add; split <;> simp_all
    rw [hadd, cell_of_row _ _ _ _ _ _ (heap_alloc_new w _)]
    simpa using hu
theorem three_oneB (k : Int) (t : ByteArray) (a : Option Addr) (l c : Nat) : ∀ u ∈ [Value.int .i64 k, .string t, .slice a l c], u.oneCell' = true := by
  intro u hu
  simp only [List.mem_cons, List.not_mem_nil, or_false] at hu
  rcases hu with rfl | rfl | rfl <;> rfl
theorem rd_new {w : World} {B gx : Nat} {s : ByteArray} (most : Nat) (hS : SrcAt w gx s 0) (h1 : B ≤ gx) (h2 : B ≤ w.heap.size) : RdAt (w.alloc (.cells #[.pointer (some ⟨gx, 0, none⟩), .int .i64 (most : Int), .int .i64 0, .pointer none] 105)) B w.heap.size gx s 0 most 0 :=
  ⟨h2, h1, hS.below ((Below.refl _ w).alloc (Nat.le_refl _) _), none, heap_alloc_new w _, .inl rfl⟩
set_option maxRecDepth 100000 in
set_option maxHeartbeats 4000000 in
theorem blocks_good (s S : ByteArray) (a most : Nat) (r : Except Nat (List Blk × Nat)) (w : World) (ha : a ≤ s.size) (hm : most ≤ 65536) (hs : s.size ≤ 100000000) (hS : S = s.extract a s.size) (h : blksF (bF8 S) (8 * S.size) most (8 * S.size + 1) 0 0 [] = r) :
    Calls Try.prog 31 #[.string s, .int .i64 (a : Int), .int .i64 (most : Int)] w fun e w' => (∃ l q v, r = .ok (l.map Prod.fst, q) ∧ e = .returned (.tuple #[v, .int .i64 (((q + 7) / 8 : Nat) : Int), .int .i64 0]) ∧ BRow w' w.heap.size v l ∧ q ≤ 8 * S.size ∧ l.length ≤ 8 * S.size ∧ Below w.heap.size w w') ∨ (∃ er, r = .error er ∧ er ≠ 0 ∧ e = .returned (.tuple #[.slice none 0 0, .int .i64 0, .int .i64 (er : Int)]) ∧ Below w.heap.size w w') := by
  obtain ⟨i0, hi, hz0, hz1, hz2⟩ := info_parts Try.infoBk
  have hSs : S.size ≤ 100000000 := by
    rw [hS, ByteArray.size_extract]; omega
  have g1 : ¬ (a : Int) < 0 := by omega
  have g2 : ¬ (s.size : Int) < (a : Int) := by omega
  have g3 : ¬ (most : Int) < 0 := by omega
  have g4 : ¬ (65536 : Int) < (most : Int) := by omega
  have g5 : (a : Int) ≤ (s.size : Int) := by omega
  have HOF : Hid (∀ W, Calls Try.prog 12 #[.string S] W fun e w' => ∃ g, e = .returned (.pointer (some ⟨g, 0, none⟩)) ∧ SrcAt w' g S 0 ∧ W.heap.size ≤ g ∧ Below W.heap.size W w') := fun W => srcOf_any S W
  have HH : Hid (blksF (bF8 S) (8 * S.size) most (8 * S.size + 1) 0 0 [] = r) := h
  have hS' := hS.symm
  clear h hS
  go_enter Try.func31, Try.ntmps31
  go_wp2_with fail
  refine (HOF.out w).mono ?_
  rintro e w1 ⟨gx, rfl, hX, hgx, hb1⟩
  have HR0 : Hid (RdAt (w1.alloc (.cells #[.pointer (some ⟨gx, 0, none⟩), .int .i64 (most : Int), .int .i64 0, .pointer none] 105)) w.heap.size w1.heap.size gx S 0 most 0) := rd_new most hX hgx hb1.size
  have HB0 : Hid (Below w.heap.size w (w1.alloc (.cells #[.pointer (some ⟨gx, 0, none⟩), .int .i64 (most : Int), .int .i64 0, .pointer none] 105))) := hb1.alloc hb1.size _
  clear HOF hX hgx hb1 g1 g2 g3 g4 g5 hS'
  go_wp2
  generalize World.alloc w1 _ = W1 at *
  generalize w1.heap.size = gr at *
  go_loopw [10] (fun v wr => ∃ (p' o' F' : Nat) (l : List Item), blksF (bF8 S) (8 * S.size) most F' p' o' (l.map Prod.fst) = r ∧ 8 * S.size < p' + F' ∧ p' ≤ 8 * S.size ∧ o' ≤ most ∧ l.length ≤ p' ∧ BRow wr w.heap.size v l ∧ RdAt wr w.heap.size gr gx S p' most o' ∧ Below w.heap.size w wr) (fun v _ => 8 * S.size + 1 - lenV v)
  case atStart => exact ⟨0, 0, _, [], HH.out, by omega, Nat.zero_le _, Nat.zero_le _, Nat.zero_le _, BRow.nil _ _, HR0.out, HB0.out⟩
  case round =>
    clear HH HR0 HB0
    obtain ⟨p', o', F', l, hT, hF', hp', ho', hl, hO, hR, hB⟩ := hrel
    obtain ⟨F2, rfl⟩ : ∃ F2, F' = F2 + 1 := ⟨F' - 1, by omega⟩
    obtain ⟨av, cv, rfl⟩ := own_slice hO.1
    rw [blksF] at hT
    generalize hbk : blkF (bF8 S) (8 * S.size) most p' o' = bk at hT
    have HBK : Hid (Calls _ _ _ _ _) := block_any w.heap.size gr gx S p' most o' bk wr hR hSs hp' ho' (by omega) hbk
    have HT : Hid (_ = r) := hT
    have HO : Hid (BRow wr w.heap.size (.slice av l.length cv) l) := hO
    have HB : Hid (Below w.heap.size w wr) := hB
    clear hbk hT hO hB hR
    go_wp2_with fail
    refine (Hid.out HBK : Calls _ _ _ _ _).mono ?_
    clear HBK
    rintro e w3 (⟨b, last, q, o, t, va, vl, vc, rfl, rfl, hV, hq, hpq, hom, hR3, hK3, hB3⟩ | ⟨er, bb, kx, t, va, vl, vc, rfl, her, rfl, hK3, hB3⟩)
    · have hB3' : Below w.heap.size w w3 := HB.out.trans hB3
      have hsw : w.heap.size ≤ w3.heap.size := hB3'.size
      have hsr : w.heap.size ≤ wr.heap.size := HB.out.size
      have hA4 : Below w3.heap.size w3 (w3.alloc (.cells #[.int .i64 (b.kind : Int), .string t, .slice va vl vc] 107)) := (Below.refl _ w3).alloc (Nat.le_refl _) _
      have hA5 : Below w3.heap.size w3 ((w3.alloc (.cells #[.int .i64 (b.kind : Int), .string t, .slice va vl vc] 107)).alloc (.cells #[.int .i64 (b.kind : Int), .string t, .slice va vl vc] 107)) := hA4.alloc hA4.size _
      obtain ⟨tt, vv, hx, hy, hz⟩ := hV
      simp only [Value.agg.injEq, Array.mk.injEq, List.cons.injEq, Value.string.injEq, and_true, true_and] at hx
      obtain ⟨rfl, rfl⟩ := hx
      have HI : Hid (BItem ((w3.alloc (.cells #[.int .i64 (b.kind : Int), .string t, .slice va vl vc] 107)).alloc (.cells #[.int .i64 (b.kind : Int), .string t, .slice va vl vc] 107)) w.heap.size (b, t, .slice va vl vc)) := ⟨hy, own_ks (hz.mono hsr) (ks_below hA5) (by decide) (by decide)⟩
      have HO5 : Hid (BRow ((w3.alloc (.cells #[.int .i64 (b.kind : Int), .string t, .slice va vl vc] 107)).alloc (.cells #[.int .i64 (b.kind : Int), .string t, .slice va vl vc] 107)) w.heap.size (.slice av l.length cv) l) := HO.out.ks (hK3.trans (ks_below hA5))
      have HR5 : Hid (RdAt ((w3.alloc (.cells #[.int .i64 (b.kind : Int), .string t, .slice va vl vc] 107)).alloc (.cells #[.int .i64 (b.kind : Int), .string t, .slice va vl vc] 107)) w.heap.size gr gx S q most o) := hR3.below hA5
      have HB5 : Hid (Below w.heap.size w ((w3.alloc (.cells #[.int .i64 (b.kind : Int), .string t, .slice va vl vc] 107)).alloc (.cells #[.int .i64 (b.kind : Int), .string t, .slice va vl vc] 107))) := hB3'.trans (hA5.mono hsw)
      have h3n := three_newB (w3.alloc (.cells #[.int .i64 (b.kind : Int), .string t, .slice va vl vc] 107)) (.int .i64 (b.kind : Int)) (.string t) (.slice va vl vc) 107
      rw [World.size_alloc] at h3n
      have HN3 : Hid _ := h3n
      have HONE : Hid _ := three_oneB (b.kind : Int) t va vl vc
      have HLL : Hid (l.length ≤ 8 * S.size) := by unfold Hid; omega
      clear h3n hy hz hA4 hA5 hB3' hR3 hK3 hB3 HO HB hsr
      go_wp2_with (at_builtin; refine wpList_append_own _ rfl _ _ 82 rfl w.heap.size 107 i0 (.agg #[.int .i64 0, .string ⟨#[]⟩, .slice none 0 0]) 3 48 Try.underlying82 hi hz0 hz1 hz2 rfl (by decide) _ _ _ rfl HO5.out.1 ⟨w3.heap.size + 1, 0, none⟩ 1 1 [.int .i64 (b.kind : Int), .string t, .slice va vl vc] rfl rfl HN3.out HONE.out (by have := HLL.out; unfold maxLen; omega) (by have := HLL.out; omega) (by simp; omega) ?_)
      intro v8 w8 hown8 hg8 _
      have hk8 := k1_app HO5.out.1 hg8
      have hO8 : BRow w8 w.heap.size v8 (l ++ [(b, t, .slice va vl vc)]) := by
        refine ⟨by rw [bcs_snoc, List.length_append]; exact hown8, fun x hx => ?_⟩
        rcases List.mem_append.1 hx with hx | hx
        · exact (HO5.out.2 x hx).k1 hk8
        · rw [List.mem_singleton] at hx; subst hx; exact HI.out.k1 hk8
      have HO8 : Hid (BRow w8 w.heap.size v8 (l ++ [(b, t, .slice va vl vc)])) := hO8
      have hR8 : RdAt w8 w.heap.size gr gx S q most o := HR5.out.k1 hk8 foreignB
      have HR8 : Hid (RdAt w8 w.heap.size gr gx S q most o) := hR8
      have HB8 : Hid (Below w.heap.size w w8) := HB5.out.grown hg8 HB5.out.size (fun q hq => (HO5.out.1.lt q hq).1)
      have HT8 : Hid ((if last = 1 then .ok ((l ++ [((b, t, .slice va vl vc) : Item)]).map Prod.fst, q) else blksF (bF8 S) (8 * S.size) most F2 q o ((l ++ [((b, t, .slice va vl vc) : Item)]).map Prod.fst)) = r) := by
        unfold Hid; rw [← HT.out, List.map_append]; rfl
      obtain ⟨a8, c8, rfl⟩ := own_slice hO8.1
      have d0 := hR8.cell0
      have HP : Hid (Calls _ _ _ _ _) := place_any gx S q w8 hR8.2.2.1
      clear hown8 hg8 hk8 hO8 hR8 HO5 HR5 HB5 HI HN3 HONE HT
      by_cases hlast : last = 1
      · subst hlast
        have HRE : Hid (.ok ((l ++ [((b, t, .slice va vl vc) : Item)]).map Prod.fst, q) = r) := by unfold Hid; rw [← HT8.out, if_pos rfl]
        clear HT8
        have hqi : ((q : Int) + 7) / 8 = (((q + 7) / 8 : Nat) : Int) := by omega
        go_wp2_with fail
        refine (Hid.out HP : Calls _ _ _ _ _).mono ?_
        rintro e w9 ⟨rfl, hw9⟩
        obtain rfl : w8 = w9 := hw9.symm
        clear hw9 HP
        go_wp2
        exact bodyPost_ret (v := .tuple #[.slice a8 (l ++ [((b, t, .slice va vl vc) : Item)]).length c8, .int .i64 (((q + 7) / 8 : Nat) : Int), .int .i64 0]) (by simp [results, Try.results31, go_sem]) rfl (.inl ⟨_, _, _, HRE.out.symm, rfl, HO8.out, hq, by rw [List.length_append, List.length_singleton]; omega, HB8.out⟩)
      · have hlf : decide (last = 1) = false := by simpa using hlast
        have HRE : Hid (blksF (bF8 S) (8 * S.size) most F2 q o ((l ++ [((b, t, .slice va vl vc) : Item)]).map Prod.fst) = r) := by unfold Hid; rw [← HT8.out, if_neg hlast]
        clear HT8 HP d0
        go_wp2
        go_roundw
        case rel => exact ⟨q, o, F2, _, HRE.out, by omega, hq, hom, by rw [List.length_append, List.length_singleton]; omega, HO8.out, HR8.out, HB8.out⟩
        case measure => simp [lenV]; have := HLL.out; omega
    · have heri : ((er : Int) != 0) = true := by simpa using her
      have hsr : w.heap.size ≤ w3.heap.size := (HB.out.trans hB3).size
      have HBE : Hid (Below w.heap.size w (w3.alloc (.cells #[.int .i64 kx, .string t, .slice va vl vc] 107))) := (HB.out.trans hB3).alloc hsr _
      have HRE : Hid (.error er = r) := HT.out
      clear hK3 hB3 HT HO HB hsr
      go_wp2
      exact bodyPost_ret (v := .tuple #[.slice none 0 0, .int .i64 0, .int .i64 (er : Int)]) (by simp [results, Try.results31, go_sem]) rfl (.inr ⟨er, HRE.out.symm, her, rfl, HBE.out⟩)
end Go.Proofs.Ytibnkpfginffhac
