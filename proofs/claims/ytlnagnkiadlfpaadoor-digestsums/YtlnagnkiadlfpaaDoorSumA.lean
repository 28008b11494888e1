/- The document's Sum: the beginning. -/
import Derived.Test.YtlnagnkiadlfpaaDoorSumW
import Derived.Test.YtlnagnkiadlfpaaDoorTableR
import Derived.Test.YtlnagnkiadlfpaaDoorStepB
import Derived.Deep.DeepCutAuto
import Derived.Deep.AppendLies
import Derived.Test.YtlnagnkiadlfpaaDoorArmW
namespace Go.Proofs.YtlnagnkiadlfpaaDoor
open Go.RowKit
set_option linter.unusedVariables false
set_option linter.unusedSimpArgs false
theorem RW.made (w : World) (B : Nat) (hB : B ≤ w.heap.size) : RW B (w.alloc (.cells #[] 33)) (.slice (some ⟨w.heap.size, 0, none⟩) 0 0) [] := World.ownsRow_made _ _ _ hB (by decide) rfl
theorem ul_cell {w : World} {g : Nat} {l : List Nat} {t : TypeId} {fr : Nat × Nat} (h : w.heap[g]? = some (.cells (ul l) t fr)) (j : Nat) (hj : j < l.length) : w.cell? ⟨g, j, none⟩ = some (.int .u64 (l.getD j 0 : Int)) := by
  rw [cell_of_row _ _ _ _ _ _ h, ul_at _ _ hj]
theorem iv_len : iv.list.length = 8 := rfl
theorem S8.len (s : S8) : s.list.length = 8 := rfl
theorem iv_small (k : Nat) : iv.list.getD k 0 < 18446744073709551616 := by
  have : Small iv.list := by unfold Small; decide
  have := this.getD k; omega
theorem Tryd.infoB8 : (Tryd.prog.info? 5).map (fun i => (i.zero, i.size, i.bytes)) = some (some (.int .u8 0), 1, 1) := by kernel_rfl
theorem of_n (x : Nat) (w : World) (hx : x < 18446744073709551616) :
    Calls Tryd.prog 13 #[.int .u64 (x : Int)] w fun e w' => e = .returned (.agg (bl (bt x)).toArray) ∧ Below w.heap.size w w' := by
  have h := of_any x w hx
  unfold bw at h
  exact h
theorem turns_s (x a b c : Nat) (w : World) (hx : x < 4294967296) (ha : 1 ≤ a) (ha' : a ≤ 31) (hb : 1 ≤ b) (hb' : b ≤ 31) (hc' : c ≤ 31) :
    Calls Tryd.prog 16 #[.agg (bl (bt x)).toArray, .int .i64 (a : Int), .int .i64 (b : Int), .int .i64 (c : Int), .bool true] w fun e w' => e = .returned (.agg (bl (bt (ror x a ^^^ ror x b ^^^ x / 2 ^ c))).toArray) ∧ Below w.heap.size w w' := by
  have h := turns_any (bt x) a b c true w ha' hb' hc'
  unfold bw at h
  rw [turn2 x a b c hx ha ha' hb hb' hc'] at h
  exact h
theorem step_n (g cap : Nat) (s : S8) (k x : Nat) (w : World) (hs : s.ok) (hv : WordsIn w g s.list) :
    Calls Tryd.prog 17 #[.slice (some ⟨g, 0, none⟩) 8 cap, .agg (bl (bt k)).toArray, .agg (bl (bt x)).toArray] w fun e w' => ∃ v, e = .returned v ∧ ∃ g', v = .slice (some ⟨g', 0, none⟩) 8 8 ∧ w.heap.size ≤ g' ∧ g' < w'.heap.size ∧ WordsAt w' g' (rnd s k x).list ∧ Below w.heap.size w w' := by
  have h := step_any g cap s k x w hs hv.1 hv.2
  unfold bw at h
  refine h.mono ?_
  rintro e w' ⟨g', rfl, h⟩
  exact ⟨_, rfl, g', rfl, h⟩
/-- What stands while the steps are made. -/
def S6 (g9 T k r gv : Nat) (SC cur : List Nat) (W : World) : Prop := WordsIn W g9 SC ∧ W.cell? ⟨T, k, none⟩ = some (.int .u64 (r : Int)) ∧ WordsIn W gv cur
theorem S6.next {g9 T k r gv : Nat} {SC cur : List Nat} {W w1 : World} (h : S6 g9 T k r gv SC cur W) (hb : Below W.heap.size W w1) : S6 g9 T k r gv SC cur w1 :=
  ⟨keepWords hb h.1, by rw [hb.cell (p := ⟨T, k, none⟩) (World.block_lt_of_cell? W _ h.2.1)]; exact h.2.1, keepWords hb h.2.2⟩
section
variable {ops : Array Oper} {Q : Exit → Act → World → Prop} {md : Region.Mode} {S : World → Prop} {fuel : Nat} {l : Array Bool}
theorem arm_callE {o : Oper} {a : Act} {w : World} {K : Act → World → Prop} {E : Prop} (hK : Shut (∀ a w, S w → (S w → wpAnyH Tryd.prog md ops Q S fuel l a w) → K a w)) (hgd : o.guard = none) (d : Option Tmp) (hd : o.dst = d)
    (f : FuncId) (args : Array Value) (hrun : ∀ w, (execOp a.eval o).run Tryd.prog w = .ok (.enter f args) w) {R : Value → World → Prop}
    (hc : Calls Tryd.prog f args w fun e w' => ∃ v, e = .returned v ∧ R v w') (h : ∀ v w', R v w' → S w' ∧ (S w' → wpAnyH Tryd.prog md ops Q S fuel l (a.put d v) w')) :
    if Region.wanted o (yielded ops a.tmps) = true then Oper.wp Tryd.prog o a w K Q else E := by
  have hw : Region.wanted o (yielded ops a.tmps) = true := by simp [Region.wanted, hgd]
  subst hd
  rw [if_pos hw]
  unfold Oper.wp
  rw [hrun w, Oper.upon_enter]
  refine hc.mono fun e w' hh => ?_
  obtain ⟨v, rfl, hR⟩ := hh
  exact hK.out _ _ (h v w' hR).1 (h v w' hR).2
theorem armW_buildW {o : Oper} {a : Act} {w : World} {K : Act → World → Prop} {E : Prop} (hgd : o.guard = none) (d : Tmp) (hd : o.dst = some d) (n : Nat) (parts : Array (Nat × Operand)) (ho : o.op = .buildSlice 30 n parts)
    (ys : List Nat) (hn : n = ys.length) (hn0 : 0 < n) (hn1 : n ≤ 100) (hparts : (parts.map fun (i, x) => (i, a.eval x)).toList = ((ys.map fun y => Value.agg (bl (bt y)).toArray).zipIdx 0).map fun x => (x.2, x.1))
    (h : ∀ w', NewWords w w' ys → K (a.put (some d) (.slice (some ⟨w.heap.size, 0, none⟩) n n)) w') :
    if Region.wanted o (yielded ops a.tmps) = true then Oper.wp Tryd.prog o a w K Q else E := by
  refine armW hgd ?_
  subst hn
  obtain ⟨r, h1, h2, h3⟩ := word_fill ys
  obtain ⟨i0, hi0, hiz, his, _⟩ := info_parts Tryd.fullW
  have nw : NewWords w (w.alloc (.cells r 33)) ys := ⟨fun k hk j v hv => by
      have hj : j < 32 := by have := (List.getElem?_eq_some_iff.1 hv).1; rwa [bl_len] at this
      rw [bl_at _ _ hj] at hv
      rw [cell_of_row _ _ _ _ _ _ (heap_alloc_new _ _), h3 k hk j hj]; exact hv, (Below.refl _ w).alloc (Nat.le_refl _) _, World.size_alloc _ _⟩
  refine wp_buildSlice _ _ _ parts ho r i0 (.agg zw) Tryd.underlying30 hi0 hiz (by rw [his]; omega) (by rw [his]; omega) ?_ (hd ▸ h _ nw)
  rw [his, hparts]; exact h1
theorem armW_storeW {o : Oper} {a : Act} {w : World} {K : Act → World → Prop} {E : Prop} (hgd : o.guard = none) (hd : o.dst = none) (x y : Operand) (ho : o.op = .store 33 x y)
    (g off : Nat) (f : Nat → Bool) (hx : a.eval x = .pointer (some ⟨g, off, none⟩)) (hy : a.eval y = .agg (bl f).toArray) (ht : w.there g off 32) (h : K (a.put none undef) (w.setCells g off (bl f))) :
    if Region.wanted o (yielded ops a.tmps) = true then Oper.wp Tryd.prog o a w K Q else E := by
  refine armW hgd ?_
  have hsz : (bl f).toArray.size = 32 := by simp [bl_len]
  refine wp_store_mid _ x y ho g off (bl f).toArray hx hy (by rw [hsz]; exact ht) (by rw [hsz]; exact Tryd.infoW) (all_oneCell_toArray (bl_one f)) ?_
  rw [hd]
  exact h
end
/-- What stands between the blocks: the eight words, the table, the bits. -/
structure LK (w : World) (gh gl : Nat) (P : List UInt8) (xs : List Nat) (wr : World) : Prop where
  words : WordsAt wr gh xs
  there : wr.there gh 0 256
  table : wr.heap[w.heap.size + 1]? = some (.cells (ul rootsL) 31 (0, 0))
  bits : ∀ j b, (bytesBits P)[j]? = some b → wr.cell? ⟨gl, j, none⟩ = some (.bool b)
  bel : Below w.heap.size w wr
  gh_lt : gh < wr.heap.size
  gl_lt : gl < wr.heap.size
theorem LK.below {w : World} {gh gl : Nat} {P : List UInt8} {xs : List Nat} {wr w1 : World} (h : LK w gh gl P xs wr) {B : Nat} (hb : Below B wr w1) (hB : wr.heap.size ≤ B) (hw : w.heap.size ≤ wr.heap.size) : LK w gh gl P xs w1 :=
  ⟨h.words.below hb (by have := h.gh_lt; omega), fun j hj => by rw [hb.cell (p := ⟨gh, 0 + j, none⟩) (by have := h.gh_lt; show gh < B; omega), World.frozen?_of_block (hb.block gh (by have := h.gh_lt; omega))]; exact h.there j hj,
    by rw [hb.block _ (by have := lt_of_block h.table; omega)]; exact h.table, fun j b hj => by rw [hb.cell (p := ⟨gl, j, none⟩) (by have := h.gl_lt; show gl < B; omega)]; exact h.bits j b hj,
    h.bel.trans (hb.mono (by omega)), Nat.lt_of_lt_of_le h.gh_lt hb.size, Nat.lt_of_lt_of_le h.gl_lt hb.size⟩
theorem setCells_other (g : Nat) {i : Nat} (hi : i ≠ g) : ∀ (vs : List Value) (o : Nat) (w : World), (w.setCells g o vs).heap[i]? = w.heap[i]?
  | [], _, _ => rfl
  | v :: r, o, w => by rw [World.setCells, setCells_other g hi r (o + 1), heap_setCell_other _ _ _ _ (fun e => hi e)]
theorem setCells_below {B g : Nat} {a : World} (hb : B ≤ g) : ∀ (vs : List Value) (o : Nat) (w : World), Below B a w → Below B a (w.setCells g o vs)
  | [], _, _, h => h
  | v :: r, o, w, h => by rw [World.setCells]; exact setCells_below hb r (o + 1) _ (h.setCell hb _)
theorem LK.setW {w : World} {gh gl : Nat} {P : List UInt8} {xs : List Nat} {wr : World} (h : LK w gh gl P xs wr) (k y : Nat) (hk : k < 8) (h1 : gl ≠ gh) (h2 : w.heap.size + 1 ≠ gh) (h3 : w.heap.size ≤ gh) : LK w gh gl P (xs.set k y) (wr.setCells gh (k * 32) (bl (bt y))) :=
  ⟨h.words.setW k y (fun j hj => by have := h.there (k * 32 + j) (by omega); rwa [Nat.zero_add] at this), World.there_setCells h.there _ _ _, by rw [setCells_other gh h2]; exact h.table,
    fun j b hj => by rw [World.cell?_of_block (setCells_other gh (i := gl) h1 _ _ _)]; exact h.bits j b hj, setCells_below h3 _ _ _ h.bel,
    Nat.lt_of_lt_of_le h.gh_lt (setCells_below (B := 0) (Nat.zero_le _) _ _ _ (Below.refl 0 wr)).size, Nat.lt_of_lt_of_le h.gl_lt (setCells_below (B := 0) (Nat.zero_le _) _ _ _ (Below.refl 0 wr)).size⟩
/-- The text with what fills its last block: so many blocks. -/
theorem blocks_of (l : List UInt8) : ∃ n, (l ++ padL l.length).length = 64 * n := ⟨(l ++ padL l.length).length / 64, by have := padded l; rw [List.length_append]; omega⟩
theorem own_bits {w : World} {B : Nat} {v : Value} {n : Nat} {l : List Bool} (h : w.ownsRow B 4 1 v n (cb l)) (hn : 0 < n) : ∃ g cap, v = .slice (some ⟨g, 0, none⟩) n cap ∧ B ≤ g ∧ g < w.heap.size ∧ n ≤ cap ∧ ∀ j b, l[j]? = some b → w.cell? ⟨g, j, none⟩ = some (.bool b) := by
  rcases h.2 with ⟨_, h2⟩ | ⟨g, cap, cur, rfl, hB, hg, hc, hm, hs, ht⟩
  · omega
  · refine ⟨g, cap, rfl, hB, lt_of_block hg, hc, fun j b hb => ?_⟩
    have := World.ownsRow.cells h (g := g) rfl j (.bool b) (by simp [cb, hb])
    rwa [Addr.add_mid, Nat.zero_add] at this
set_option maxRecDepth 100000 in
set_option maxHeartbeats 2000000 in
theorem rsum_any (s : ByteArray) (w : World) (hs : s.size ≤ 1000) :
    Calls Tryd.prog 5 #[.string s] w fun e w' => e = .returned (.string (shaS s.data.toList)) ∧ Below w.heap.size w w' := by
  have HN : Hid (_ = _) := zw_bc
  go_enter Tryd.func5, Tryd.ntmps5
  go_wp2_with fail
  refine (tableR_any w).mono ?_
  rintro e w1 ⟨rfl, hA, hT, hb1⟩
  have HA : Hid _ := hA
  have HT : Hid _ := hT
  have hsz1 : w.heap.size + 2 ≤ w1.heap.size := by have := lt_of_block hT; omega
  clear hA hT
  go_wp2
  go_loopw [5, 30] (fun v i wr => ∃ k : Nat, k ≤ 8 ∧ i = .int .i64 (k : Int) ∧ RW w1.heap.size wr v (iv.list.take k) ∧ Below w1.heap.size w1 wr) (fun _ i _ => 8 - (intOf i).toNat)
  case atStart => exact ⟨0, by omega, rfl, RW.made _ _ (Nat.le_refl _), (Below.refl _ w1).alloc (Nat.le_refl _) _⟩
  case round =>
    obtain ⟨k, hk, rfl, hown, hbel⟩ := hrel
    by_cases hlt : k < 8
    · have hc : wr.cell? ⟨w.heap.size, k, none⟩ = some (.int .u64 (iv.list.getD k 0 : Int)) := by
        rw [hbel.cell (p := ⟨w.heap.size, k, none⟩) (by show w.heap.size < _; omega)]; exact ul_cell HA.out k hlt
      have hkl : (k : Int) < 8 := by omega
      have hx := iv_small k
      have HX : Hid (iv.list.take (k + 1) = iv.list.take k ++ [iv.list.getD k 0]) := take_next _ _ hlt
      have hlen : (iv.list.take k).length = k := by rw [List.length_take, iv_len]; omega
      generalize iv.list.getD k 0 = x at *
      generalize hL : iv.list.take k = L at *
      clear hL
      go_wp2_with fail
      refine (of_n x _ hx).mono ?_
      rintro e w2 ⟨rfl, hb2⟩
      have hown2 := hown.below hb2 (Nat.le_refl _)
      have hbel2 := hbel.trans (hb2.mono (below_size hbel (Nat.le_refl _)))
      clear hown hbel hc hb2
      go_wp2_with (refine wpList_buildW rfl 1 _ rfl 37 rfl [x] rfl (by decide) (by decide) (by first | rfl | go_simp) ?_)
      intro w3 nw
      have hown3 := hown2.below nw.bel (Nat.le_refl _)
      have hbel3 := hbel2.trans (nw.bel.mono (below_size hbel2 (Nat.le_refl _)))
      go_wp2_with (at_builtin; refine wpList_appendW rfl _ _ rfl 38 rfl w1.heap.size _ L [x] _ 1 1 rfl rfl rfl hown3 nw.at' ?c1 (by decide) (by decide) ?c2 ?_)
      case c1 => omega
      case c2 => exact below_size hbel3 (Nat.le_refl _)
      intro v' w4 gw
      have hb4 := gw.below hown3 hbel3 (below_size hbel3 (Nat.le_refl _))
      have ho4 := gw.own
      rw [← HX.out] at ho4
      clear hown2 hbel2 nw hown3 hbel3 gw HX
      go_wp2
      go_roundw
      case rel => exact ⟨k + 1, by omega, by go_num, ho4, hb4⟩
      case measure => simp [intOf]; omega
    · have hke : k = 8 := by omega
      subst hke
      rw [show iv.list.take 8 = iv.list from rfl] at hown
      obtain ⟨gh, ch, rfl, hgh, hgl, hW, hth⟩ := hown.at (by decide)
      clear hown
      rw [iv_len] at hth ⊢
      go_wp2_with fail
      refine (bits_any s _ hs).mono ?_
      rintro e w5 ⟨vl, rfl, hl5, hb5⟩
      obtain ⟨n, hn⟩ := blocks_of s.data.toList
      have HSH : Hid (shaS s.data.toList = bs ((blkN iv (s.data.toList ++ padL s.size) n).list.flatMap wb)) := by
        unfold Hid shaS shaB shaW
        rw [← size_data s, mixL_blocks n _ _ hn]
      have hn0 : 0 < n := by have := padL_len s.data.toList.length; rw [List.length_append] at hn; omega
      rw [size_data] at hn
      generalize s.data.toList ++ padL s.size = P at *
      rw [hn] at hl5
      obtain ⟨gl, cl, rfl, hgl0, hgl1, hcl, hbits⟩ := own_bits hl5 (by omega)
      clear hl5
      have hszr := hbel.size
      have HLK : Hid (LK w gh gl P iv.list w5) := ⟨hW.below hb5 (by omega), fun j hj => by
          rw [hb5.cell (p := ⟨gh, 0 + j, none⟩) (by show gh < _; omega), World.frozen?_of_block (hb5.block gh (by omega)), Nat.zero_add]; exact hth j hj,
        by rw [hb5.block _ (by omega), hbel.block _ (by omega)]; exact HT.out, hbits, hb1.trans ((hbel.mono (by omega)).trans (hb5.mono (by omega))), Nat.lt_of_lt_of_le hgl hb5.size, hgl1⟩
      have hne : gl ≠ gh := by omega
      have hneT : w.heap.size + 1 ≠ gh := by omega
      have hw5 : w.heap.size ≤ w5.heap.size := by omega
      have hgB : w.heap.size ≤ gh := by omega
      clear hbits hW hth hbel hb5 HA HT hb1 hszr hgl0 hgl1 hgh hgl hsz1
      go_wp2
      go_loopw [8] (fun v wr => ∃ (q c : Nat) (ad : Option Addr), q ≤ n ∧ v = .slice ad (512 * (n - q)) c ∧ (q < n → ad = some ⟨gl, 512 * q, none⟩) ∧ 512 * (n - q) ≤ c ∧ LK w gh gl P (blkN iv P q).list wr ∧ w.heap.size ≤ wr.heap.size) (fun v _ => lenOf v)
      case atStart => exact ⟨0, cl, _, by omega, by rw [show 8 * (64 * n) = 512 * (n - 0) by omega], fun _ => rfl, by omega, HLK.out, hw5⟩
      case round =>
        clear HLK hw5
        obtain ⟨q, c, ad, hq, rfl, had, hc, hLK, hwr⟩ := hrel
        by_cases hlt : q < n
        · obtain rfl := had hlt
          clear had
          obtain ⟨w6, e6⟩ : ∃ w6, w6 = wr := ⟨_, rfl⟩
          subst e6
          obtain ⟨N, hN⟩ : ∃ N, 512 * (n - q) = N := ⟨_, rfl⟩
          obtain ⟨Q, hQ⟩ : ∃ Q, 512 * q = Q := ⟨_, rfl⟩
          rw [hN, hQ]
          rw [hN] at hc
          have HNN : Hid (512 * (n - q) = N) := hN
          have HQQ : Hid (512 * q = Q) := hQ
          have hN5 : 512 ≤ N := by omega
          have hpos : (0 : Int) < (N : Int) := by omega
          have hpos' : 0 < N := by omega
          clear hN hQ
          have HLK : Hid _ := hLK
          clear hLK
          have hblk : 64 * q + 64 ≤ P.length := by omega
          go_wp2
          go_loopw [9, 10] (fun v i wr => ∃ k : Nat, k ≤ 16 ∧ i = .int .i64 (k : Int) ∧ RW w6.heap.size wr v ((loadB (blkQ P q) 64).take k) ∧ Below w6.heap.size w6 wr) (fun _ i _ => 16 - (intOf i).toNat)
          case atStart => exact ⟨0, by omega, rfl, RW.made _ _ (Nat.le_refl _), (Below.refl _ w6).alloc (Nat.le_refl _) _⟩
          case round =>
            obtain ⟨k, hk, rfl, hown, hbel⟩ := hrel
            by_cases hk16 : k < 16
            · obtain ⟨w7, e7⟩ : ∃ w7, w7 = wr := ⟨_, rfl⟩
              subst e7
              have hlen : ((loadB (blkQ P q) 64).take k).length = k := by rw [List.length_take, loadB_len]; omega
              have HX : Hid ((loadB (blkQ P q) 64).take (k + 1) = (loadB (blkQ P q) 64).take k ++ [(loadB (blkQ P q) 64).getD k 0]) := take_next _ _ (by rw [loadB_len]; omega)
              have HBT : Hid (∀ m, m < 32 → w7.cell? ⟨gl, Q + (32 * k + m), none⟩ = some (.bool (bt ((loadB (blkQ P q) 64).getD k 0) m))) := fun m hm => by
                rw [hbel.cell (p := ⟨gl, _, none⟩) HLK.out.gl_lt, ← HQQ.out]
                exact HLK.out.bits _ _ (blk_bit P q k m hk16 hm hblk)
              generalize (loadB (blkQ P q) 64).getD k 0 = x at *
              generalize hL : (loadB (blkQ P q) 64).take k = L at *
              clear hL
              have hz := (zero_of_info Tryd.zeroW).1
              have hki : (k : Int) < 16 := by omega
              have hsz7 := hbel.size
              go_wp2_with (refine wpList_store_row rfl 33 _ _ rfl w7.heap.size (bw fun _ => false) rfl (congrArg Value.agg HN.out) 33 zw (heap_alloc_new _ _) (iW _) (by rw [HN.out]) (bw_one _) ?_)
              clear hz
              have HD : Hid (((w7.alloc (.cells zw 33)).setRow w7.heap.size (bw fun _ => false)).heap[w7.heap.size]? = some (.cells (bw (tkF (bt x) 0)) 33 (0, 0)) ∧ Below w7.heap.size w7 ((w7.alloc (.cells zw 33)).setRow w7.heap.size (bw fun _ => false))) := by
                refine ⟨?_, below_setRow ((Below.refl _ w7).alloc (Nat.le_refl _) _) (Nat.le_refl _) _⟩
                rw [tkF_zero]; exact setRow_heap _ _ _ _ _ _ (heap_alloc_new _ _)
              generalize (w7.alloc (.cells zw 33)).setRow w7.heap.size (bw fun _ => false) = W0 at *
              go_loopw [51] (fun i wr => ∃ m : Nat, m ≤ 32 ∧ i = .int .i64 (m : Int) ∧ wr.heap[w7.heap.size]? = some (.cells (bw (tkF (bt x) m)) 33 (0, 0)) ∧ Below w7.heap.size w7 wr) (fun i _ => 32 - (intOf i).toNat)
              case atStart => exact ⟨0, by omega, rfl, HD.out.1, HD.out.2⟩
              case round =>
                clear HD
                obtain ⟨m, hm, rfl, hD, hb8⟩ := hrel
                by_cases hm32 : m < 32
                · have HS : Hid (_ = _) := tkF_step (bt x) m
                  have hc1 : wr.cell? ⟨gl, Q + (32 * k + m), none⟩ = some (.bool (bt x m)) := by
                    rw [hb8.cell (p := ⟨gl, _, none⟩) (by show gl < _; have := HLK.out.gl_lt; omega)]; exact HBT.out m hm32
                  have hd0 : wr.cell? ⟨w7.heap.size, m, none⟩ = some (.bool (tkF (bt x) m m)) := by rw [cell_of_row _ _ _ _ _ _ hD, bw_at _ _ hm32]
                  have hd1 : wr.frozen? ⟨w7.heap.size, m, none⟩ = false := frozen_of_row _ _ _ _ _ hD
                  have HD2 : Hid ((wr.setCell ⟨w7.heap.size, m, none⟩ (.bool (bt x m))).heap[w7.heap.size]? = some (.cells (bw (tkF (bt x) (m + 1))) 33 (0, 0)) ∧ Below w7.heap.size w7 (wr.setCell ⟨w7.heap.size, m, none⟩ (.bool (bt x m)))) :=
                    ⟨by rw [heap_setCell_same _ _ _ _ _ _ hD, bw_upd, HS.out], hb8.setCell (Nat.le_refl _) _⟩
                  obtain ⟨t, ht⟩ : ∃ t, 32 * k + m = t := ⟨_, rfl⟩
                  rw [ht] at hc1
                  have ht1 : IntKind.i64.wrap (32 * (k : Int)) = 32 * (k : Int) := by rw [IntKind.wrap_i64]; omega
                  have ht2 : IntKind.i64.wrap (32 * (k : Int) + (m : Int)) = (t : Int) := by rw [IntKind.wrap_i64]; omega
                  have ht3 : (t : Int) < (N : Int) := by omega
                  have ht4 : t < N := by omega
                  have hml : (m : Int) < 32 := by omega
                  clear ht hD hb8 HBT HS
                  go_wp2
                  go_roundw
                  case rel => exact ⟨m + 1, by omega, by go_num, HD2.out.1, HD2.out.2⟩
                  case measure => simp [intOf]; omega
                · have hm32' : m = 32 := by omega
                  subst hm32'
                  rw [tkF_end] at hD
                  have HG : Hid _ := hD
                  have hown8 := hown.below hb8 (Nat.le_refl _)
                  have hbel8 := hbel.trans (hb8.mono hsz7)
                  clear hown hbel hb8 hD HBT
                  go_wp2_with (first | refine wpList_load_mid rfl 33 _ rfl w7.heap.size 0 rfl (bl (bt x)) _ (range_row HG.out) Tryd.underlying33 rfl (by rw [bl_len]; exact Tryd.infoW) ?_ | refine wpList_buildW rfl 1 _ rfl 66 rfl [x] rfl (by decide) (by decide) (by first | rfl | go_simp) ?_)
                  intro w9 nw
                  have hown9 := hown8.below nw.bel (Nat.le_refl _)
                  have hbel9 := hbel8.trans (nw.bel.mono (below_size hbel8 (Nat.le_refl _)))
                  go_wp2_with (at_builtin; refine wpList_appendW rfl _ _ rfl 67 rfl w6.heap.size _ L [x] _ 1 1 rfl rfl rfl hown9 nw.at' ?c1 (by decide) (by decide) ?c2 ?_)
                  case c1 => omega
                  case c2 => exact below_size hbel9 (Nat.le_refl _)
                  intro v' w10 gw
                  have hb10 := gw.below hown9 hbel9 (below_size hbel9 (Nat.le_refl _))
                  have ho10 := gw.own
                  rw [← HX.out] at ho10
                  clear hown8 hbel8 nw hown9 hbel9 gw HX HG
                  go_wp2
                  go_roundw
                  case rel => exact ⟨k + 1, by omega, by go_num, ho10, hb10⟩
                  case measure => simp [intOf]; omega
            · have hke : k = 16 := by omega
              subst hke
              have hN6 : (512 : Int) ≤ (N : Int) := by omega
              obtain ⟨N', eN⟩ : ∃ N', N = 512 + N' := ⟨N - 512, by omega⟩
              obtain ⟨c', ec⟩ : ∃ c', c = 512 + c' := ⟨c - 512, by omega⟩
              subst eN
              subst ec
              go_upto_region 21 with fail
              go_cut [8] (fun v wx => ∃ ad, v = .slice ad N' c' ∧ wx = wr ∧ (0 < N' → ad = some ⟨gl, Q + 512, none⟩))
              case first =>
                by_cases hc0 : c' = 0
                · subst hc0
                  obtain rfl : N' = 0 := by omega
                  go_wp2
                  go_meet
                  exact ⟨_, rfl, rfl, fun h => absurd h (by omega)⟩
                · go_wp2
                  go_meet
                  exact ⟨_, rfl, rfl, fun _ => rfl⟩
              case rest =>
                obtain ⟨ad, rfl, rfl, had⟩ := hcut
                have HAD : Hid _ := had
                clear had
                rw [show (loadB (blkQ P q) 64).take 16 = sch (blkQ P q) 0 from rfl] at hown
                go_wp2
                go_loopw [9, 13] (fun v i wr => ∃ k : Nat, k ≤ 48 ∧ i = .int .i64 ((16 + k : Nat) : Int) ∧ RW w6.heap.size wr v (sch (blkQ P q) k) ∧ Below w6.heap.size w6 wr) (fun _ i _ => 64 - (intOf i).toNat)
                case atStart => exact ⟨0, by omega, rfl, hown, hbel⟩
                case round =>
                  clear hown hbel
                  obtain ⟨k, hk5, rfl, hown, hbel⟩ := hrel
                  have hLen := sch_len (blkQ P q) k hk5
                  by_cases hk48 : k < 48
                  · obtain ⟨g9, cap, rfl, hBg9, hg9, hWI, _⟩ := hown.at (by omega)
                    have HX : Hid (sch (blkQ P q) (k + 1) = sch (blkQ P q) k ++ [wnext (sch (blkQ P q) k) (16 + k)]) := sch_step _ _ hk48
                    have hsm := sch_small (blkQ P q) k
                    have HI1 : Hid (Value.int .i64 (((16 + k : Nat) : Int) + 1) = Value.int .i64 ((16 + (k + 1) : Nat) : Int)) := by unfold Hid; go_num
                    have HM5 : Hid (64 - (intOf (Value.int IntKind.i64 (((16 + k : Nat) : Int) + 1))).toNat < 64 - (intOf (Value.int IntKind.i64 ((16 + k : Nat) : Int))).toNat) := by unfold Hid; simp [intOf]; omega
                    rw [hLen] at hown ⊢
                    have hI64 : ((16 + k : Nat) : Int) < 64 := by omega
                    have HWN : Hid (wnext (sch (blkQ P q) k) (16 + k) = _) := wnext_eq _ _
                    generalize wnext (sch (blkQ P q) k) (16 + k) = y at *
                    have hO : RW w6.heap.size wr.drew _ _ := hown
                    have hBl : Below w6.heap.size w6 wr.drew := hbel.drew
                    clear hown hbel
                    generalize sch (blkQ P q) k = L at *
                    have hI1 : 16 ≤ 16 + k := by omega
                    have hI2 : 16 + k < 64 := by omega
                    generalize hI : 16 + k = I at *
                    clear hI
                    obtain ⟨a16, e16⟩ : ∃ a, I - 16 = a := ⟨_, rfl⟩
                    obtain ⟨a15, e15⟩ : ∃ a, I - 15 = a := ⟨_, rfl⟩
                    obtain ⟨a7, e7⟩ : ∃ a, I - 7 = a := ⟨_, rfl⟩
                    obtain ⟨a2, e2⟩ : ∃ a, I - 2 = a := ⟨_, rfl⟩
                    rw [e16, e15, e7, e2] at HWN
                    obtain ⟨x16, hx16⟩ : ∃ x, L.getD a16 0 = x := ⟨_, rfl⟩
                    obtain ⟨x15, hx15⟩ : ∃ x, L.getD a15 0 = x := ⟨_, rfl⟩
                    obtain ⟨x7, hx7⟩ : ∃ x, L.getD a7 0 = x := ⟨_, rfl⟩
                    obtain ⟨x2, hx2⟩ : ∃ x, L.getD a2 0 = x := ⟨_, rfl⟩
                    have q15 : x15 < 4294967296 := hx15 ▸ hsm.getD a15
                    have q2 : x2 < 4294967296 := hx2 ▸ hsm.getD a2
                    rw [hx16, hx15, hx7, hx2] at HWN
                    have H0 : Hid (∀ W : World, Calls Tryd.prog 16 #[.agg (bl (bt x15)).toArray, .int .i64 7, .int .i64 18, .int .i64 3, .bool true] W fun e w' => e = .returned (.agg (bl (bt (sg0 x15))).toArray) ∧ Below W.heap.size W w') := fun W => turns_s x15 7 18 3 W q15 (by decide) (by decide) (by decide) (by decide) (by decide)
                    have H1 : Hid (∀ W : World, Calls Tryd.prog 16 #[.agg (bl (bt x2)).toArray, .int .i64 17, .int .i64 19, .int .i64 10, .bool true] W fun e w' => e = .returned (.agg (bl (bt (sg1 x2))).toArray) ∧ Below W.heap.size W w') := fun W => turns_s x2 17 19 10 W q2 (by decide) (by decide) (by decide) (by decide) (by decide)
                    generalize sg0 x15 = y0 at *
                    generalize sg1 x2 = y1 at *
                    have HY : Hid (sumW [x16, y0, x7, y1] = y) := by unfold Hid; rw [sum4, HWN.out]
                    have l16 : a16 < I := by omega
                    have l15 : a15 < I := by omega
                    have l7 : a7 < I := by omega
                    have l2 : a2 < I := by omega
                    have w16 : IntKind.i64.wrap ((I : Int) - 16) = (a16 : Int) := by rw [IntKind.wrap_i64]; omega
                    have w15 : IntKind.i64.wrap ((I : Int) - 15) = (a15 : Int) := by rw [IntKind.wrap_i64]; omega
                    have w7' : IntKind.i64.wrap ((I : Int) - 7) = (a7 : Int) := by rw [IntKind.wrap_i64]; omega
                    have w2' : IntKind.i64.wrap ((I : Int) - 2) = (a2 : Int) := by rw [IntKind.wrap_i64]; omega
                    have i16 : (a16 : Int) < (I : Int) := by omega
                    have i15 : (a15 : Int) < (I : Int) := by omega
                    have i7 : (a7 : Int) < (I : Int) := by omega
                    have i2 : (a2 : Int) < (I : Int) := by omega
                    clear HWN e16 e15 e7 e2 hsm q15 q2
                    go_upto_region 25 with fail
                    --R25{
                    refine wp_region_held_drew (S := fun W => WordsIn W g9 L) (by kernel_rfl) ⟨hWI, hg9⟩ (fun hHeld => ?_)
                    change wpAnyH _ _ _ _ _ 28 (Array.replicate 28 false) _ _
                    refine take_op (i := 0) rfl (by kernel_rfl) (by kernel_rfl) (by kernel_rfl) (fun _ _ _ _ h => h) 74 rfl (.slice (some ⟨g9, 0, none⟩) I cap) (Or.inl ⟨by rfl, by intro w hSw; go_simp⟩) hHeld ?_
                    simp only [Act.put, List.setIfInBounds_toArray, List.set_cons_zero, List.set_cons_succ]
                    refine take_op (i := 1) rfl (by kernel_rfl) (by kernel_rfl) (by kernel_rfl) (fun _ _ _ _ h => h) 75 rfl (.slice (some ⟨g9, 0, none⟩) I cap) (Or.inl ⟨by rfl, by intro w hSw; go_simp⟩) hHeld ?_
                    simp only [Act.put, List.setIfInBounds_toArray, List.set_cons_zero, List.set_cons_succ]
                    refine take_op (i := 2) rfl (by kernel_rfl) (by kernel_rfl) (by kernel_rfl) (fun _ _ _ _ h => h) 76 rfl (.int .i64 (I : Int)) (Or.inl ⟨by rfl, by intro w hSw; go_simp⟩) hHeld ?_
                    simp only [Act.put, List.setIfInBounds_toArray, List.set_cons_zero, List.set_cons_succ]
                    refine take_op (i := 3) rfl (by kernel_rfl) (by kernel_rfl) (by kernel_rfl) (fun _ _ _ _ h => h) 77 rfl (.int .i64 (a16 : Int)) (Or.inl ⟨by rfl, by intro w hSw; go_simp⟩) hHeld ?_
                    simp only [Act.put, List.setIfInBounds_toArray, List.set_cons_zero, List.set_cons_succ]
                    refine take_op (i := 4) rfl (by kernel_rfl) (by kernel_rfl) (by kernel_rfl) (fun _ _ _ _ h => h) 78 rfl (.pointer (some ⟨g9, a16 * 32, none⟩)) (Or.inl ⟨by rfl, by intro w hSw; go_simp⟩) hHeld ?_
                    simp only [Act.put, List.setIfInBounds_toArray, List.set_cons_zero, List.set_cons_succ]
                    refine take_load (i := 5) rfl (by kernel_rfl) (by kernel_rfl) (by kernel_rfl) (fun _ _ _ _ h => h) rfl 79 rfl _ rfl (g9) (a16 * 32) rfl (bt x16) (fun W h => hx16 ▸ h.1 a16 (by rw [hLen]; exact l16)) hHeld ?_
                    simp only [Act.put, List.setIfInBounds_toArray, List.set_cons_zero, List.set_cons_succ]
                    refine take_op (i := 6) rfl (by kernel_rfl) (by kernel_rfl) (by kernel_rfl) (fun _ _ _ _ h => h) 80 rfl (.slice (some ⟨g9, 0, none⟩) I cap) (Or.inl ⟨by rfl, by intro w hSw; go_simp⟩) hHeld ?_
                    simp only [Act.put, List.setIfInBounds_toArray, List.set_cons_zero, List.set_cons_succ]
                    refine take_op (i := 7) rfl (by kernel_rfl) (by kernel_rfl) (by kernel_rfl) (fun _ _ _ _ h => h) 81 rfl (.int .i64 (I : Int)) (Or.inl ⟨by rfl, by intro w hSw; go_simp⟩) hHeld ?_
                    simp only [Act.put, List.setIfInBounds_toArray, List.set_cons_zero, List.set_cons_succ]
                    refine take_op (i := 8) rfl (by kernel_rfl) (by kernel_rfl) (by kernel_rfl) (fun _ _ _ _ h => h) 82 rfl (.int .i64 (a15 : Int)) (Or.inl ⟨by rfl, by intro w hSw; go_simp⟩) hHeld ?_
                    simp only [Act.put, List.setIfInBounds_toArray, List.set_cons_zero, List.set_cons_succ]
                    refine take_op (i := 9) rfl (by kernel_rfl) (by kernel_rfl) (by kernel_rfl) (fun _ _ _ _ h => h) 83 rfl (.pointer (some ⟨g9, a15 * 32, none⟩)) (Or.inl ⟨by rfl, by intro w hSw; go_simp⟩) hHeld ?_
                    simp only [Act.put, List.setIfInBounds_toArray, List.set_cons_zero, List.set_cons_succ]
                    refine take_load (i := 10) rfl (by kernel_rfl) (by kernel_rfl) (by kernel_rfl) (fun _ _ _ _ h => h) rfl 84 rfl _ rfl (g9) (a15 * 32) rfl (bt x15) (fun W h => hx15 ▸ h.1 a15 (by rw [hLen]; exact l15)) hHeld ?_
                    simp only [Act.put, List.setIfInBounds_toArray, List.set_cons_zero, List.set_cons_succ]
                    refine take_op (i := 12) rfl (by kernel_rfl) (by kernel_rfl) (by kernel_rfl) (fun _ _ _ _ h => h) 86 rfl (.slice (some ⟨g9, 0, none⟩) I cap) (Or.inl ⟨by rfl, by intro w hSw; go_simp⟩) hHeld ?_
                    simp only [Act.put, List.setIfInBounds_toArray, List.set_cons_zero, List.set_cons_succ]
                    refine take_op (i := 13) rfl (by kernel_rfl) (by kernel_rfl) (by kernel_rfl) (fun _ _ _ _ h => h) 87 rfl (.int .i64 (I : Int)) (Or.inl ⟨by rfl, by intro w hSw; go_simp⟩) hHeld ?_
                    simp only [Act.put, List.setIfInBounds_toArray, List.set_cons_zero, List.set_cons_succ]
                    refine take_op (i := 14) rfl (by kernel_rfl) (by kernel_rfl) (by kernel_rfl) (fun _ _ _ _ h => h) 88 rfl (.int .i64 (a7 : Int)) (Or.inl ⟨by rfl, by intro w hSw; go_simp⟩) hHeld ?_
                    simp only [Act.put, List.setIfInBounds_toArray, List.set_cons_zero, List.set_cons_succ]
                    refine take_op (i := 15) rfl (by kernel_rfl) (by kernel_rfl) (by kernel_rfl) (fun _ _ _ _ h => h) 89 rfl (.pointer (some ⟨g9, a7 * 32, none⟩)) (Or.inl ⟨by rfl, by intro w hSw; go_simp⟩) hHeld ?_
                    simp only [Act.put, List.setIfInBounds_toArray, List.set_cons_zero, List.set_cons_succ]
                    refine take_load (i := 16) rfl (by kernel_rfl) (by kernel_rfl) (by kernel_rfl) (fun _ _ _ _ h => h) rfl 90 rfl _ rfl (g9) (a7 * 32) rfl (bt x7) (fun W h => hx7 ▸ h.1 a7 (by rw [hLen]; exact l7)) hHeld ?_
                    simp only [Act.put, List.setIfInBounds_toArray, List.set_cons_zero, List.set_cons_succ]
                    refine take_op (i := 17) rfl (by kernel_rfl) (by kernel_rfl) (by kernel_rfl) (fun _ _ _ _ h => h) 91 rfl (.slice (some ⟨g9, 0, none⟩) I cap) (Or.inl ⟨by rfl, by intro w hSw; go_simp⟩) hHeld ?_
                    simp only [Act.put, List.setIfInBounds_toArray, List.set_cons_zero, List.set_cons_succ]
                    refine take_op (i := 18) rfl (by kernel_rfl) (by kernel_rfl) (by kernel_rfl) (fun _ _ _ _ h => h) 92 rfl (.int .i64 (I : Int)) (Or.inl ⟨by rfl, by intro w hSw; go_simp⟩) hHeld ?_
                    simp only [Act.put, List.setIfInBounds_toArray, List.set_cons_zero, List.set_cons_succ]
                    refine take_op (i := 19) rfl (by kernel_rfl) (by kernel_rfl) (by kernel_rfl) (fun _ _ _ _ h => h) 93 rfl (.int .i64 (a2 : Int)) (Or.inl ⟨by rfl, by intro w hSw; go_simp⟩) hHeld ?_
                    simp only [Act.put, List.setIfInBounds_toArray, List.set_cons_zero, List.set_cons_succ]
                    refine take_op (i := 20) rfl (by kernel_rfl) (by kernel_rfl) (by kernel_rfl) (fun _ _ _ _ h => h) 94 rfl (.pointer (some ⟨g9, a2 * 32, none⟩)) (Or.inl ⟨by rfl, by intro w hSw; go_simp⟩) hHeld ?_
                    simp only [Act.put, List.setIfInBounds_toArray, List.set_cons_zero, List.set_cons_succ]
                    refine take_load (i := 21) rfl (by kernel_rfl) (by kernel_rfl) (by kernel_rfl) (fun _ _ _ _ h => h) rfl 95 rfl _ rfl (g9) (a2 * 32) rfl (bt x2) (fun W h => hx2 ▸ h.1 a2 (by rw [hLen]; exact l2)) hHeld ?_
                    simp only [Act.put, List.setIfInBounds_toArray, List.set_cons_zero, List.set_cons_succ]
                    refine wpAnyH_ready (rs := [11]) (by kernel_rfl) (by simp) ?_
                    refine AllReadyH.cons rfl (fun K hK => ?_) AllReadyH.nil
                    refine arm_call hK rfl (some 85) rfl 16 #[.agg (bl (bt x15)).toArray, .int .i64 7, .int .i64 18, .int .i64 3, .bool true] (by intro w; go_simp) (H0.out _) ?_
                    intro w1 hb1
                    refine ⟨keepWords hb1 hHeld, fun hHeld => ?_⟩
                    clear hK
                    have hO := hO.below hb1 (Nat.le_refl _)
                    have hBl := hBl.trans (hb1.mono (below_size hBl (Nat.le_refl _)))
                    simp only [Act.put, List.setIfInBounds_toArray, List.set_cons_zero, List.set_cons_succ]
                    refine wpAnyH_ready (rs := [22]) (by kernel_rfl) (by simp) ?_
                    refine AllReadyH.cons rfl (fun K hK => ?_) AllReadyH.nil
                    refine arm_call hK rfl (some 96) rfl 16 #[.agg (bl (bt x2)).toArray, .int .i64 17, .int .i64 19, .int .i64 10, .bool true] (by intro w; go_simp) (H1.out _) ?_
                    intro w2 hb2
                    refine ⟨keepWords hb2 hHeld, fun hHeld => ?_⟩
                    clear hK
                    have hO := hO.below hb2 (Nat.le_refl _)
                    have hBl := hBl.trans (hb2.mono (below_size hBl (Nat.le_refl _)))
                    simp only [Act.put, List.setIfInBounds_toArray, List.set_cons_zero, List.set_cons_succ]
                    refine wpAnyH_ready (rs := [23]) (by kernel_rfl) (by simp) ?_
                    refine AllReadyH.cons rfl (fun K hK => ?_) AllReadyH.nil
                    refine arm_build hK rfl 97 rfl 4 _ rfl [x16, y0, x7, y1] rfl (by decide) (by decide) (by first | rfl | go_simp) ?_
                    intro w3 nw
                    refine ⟨keepWords nw.bel hHeld, fun hHeld => ?_⟩
                    have hE : WordsIn w3 _ [x16, y0, x7, y1] := ⟨nw.at', by rw [nw.size]; omega⟩
                    clear hK
                    have hO := hO.below nw.bel (Nat.le_refl _)
                    have hBl := hBl.trans (nw.bel.mono (below_size hBl (Nat.le_refl _)))
                    simp only [Act.put, List.setIfInBounds_toArray, List.set_cons_zero, List.set_cons_succ]
                    refine wpAnyH_ready (rs := [24]) (by kernel_rfl) (by simp) ?_
                    refine AllReadyH.cons rfl (fun K hK => ?_) AllReadyH.nil
                    refine arm_call hK rfl (some 98) rfl 15 #[.slice (some ⟨_, 0, none⟩) 4 4] (by intro w; go_simp) (add_n _ 4 4 _ y _ hE rfl (by decide) HY.out) ?_
                    intro w4 hb4
                    refine ⟨keepWords hb4 hHeld, fun hHeld => ?_⟩
                    clear hK
                    have hO := hO.below hb4 (Nat.le_refl _)
                    have hBl := hBl.trans (hb4.mono (below_size hBl (Nat.le_refl _)))
                    simp only [Act.put, List.setIfInBounds_toArray, List.set_cons_zero, List.set_cons_succ]
                    refine wpAnyH_ready (rs := [25]) (by kernel_rfl) (by simp) ?_
                    refine AllReadyH.cons rfl (fun K hK => ?_) AllReadyH.nil
                    refine arm_build hK rfl 99 rfl 1 _ rfl [y] rfl (by decide) (by decide) (by first | rfl | go_simp) ?_
                    intro w5' nw5
                    refine ⟨keepWords nw5.bel hHeld, fun hHeld => ?_⟩
                    clear hK
                    have hO := hO.below nw5.bel (Nat.le_refl _)
                    have hBl := hBl.trans (nw5.bel.mono (below_size hBl (Nat.le_refl _)))
                    simp only [Act.put, List.setIfInBounds_toArray, List.set_cons_zero, List.set_cons_succ]
                    refine wpAnyH_ready (rs := [26]) (by kernel_rfl) (by simp) ?_
                    refine AllReadyH.cons rfl (fun K hK => ?_) AllReadyH.nil
                    refine arm_appendW hK rfl 100 rfl _ _ rfl w6.heap.size (.slice (some ⟨g9, 0, none⟩) I cap) L [y] _ 1 1 rfl rfl rfl hO nw5.at' (by omega) (by decide) (by decide) (below_size hBl (Nat.le_refl _)) ?_
                    intro v' w8 gw
                    refine ⟨⟨gw.old g9 rfl, Nat.lt_of_lt_of_le hHeld.2 gw.grew.size⟩, fun hHeld => ?_⟩
                    have hbF := gw.below hO hBl (below_size hBl (Nat.le_refl _))
                    have hoF := gw.own
                    clear hK
                    simp only [Act.put, List.setIfInBounds_toArray, List.set_cons_zero, List.set_cons_succ]
                    refine take_op (i := 27) rfl (by kernel_rfl) (by kernel_rfl) (by kernel_rfl) (fun _ _ _ _ h => h) 9 rfl (v') (Or.inl ⟨by rfl, by intro w hSw; go_simp⟩) hHeld ?_
                    simp only [Act.put, List.setIfInBounds_toArray, List.set_cons_zero, List.set_cons_succ]
                    refine wpAnyH_done (by kernel_rfl) ?_ _
                    rw [← HX.out] at hoF
                    clear hO hBl hHeld hE nw nw5 gw
                    go_wp2
                    go_roundw
                    case rel => exact ⟨k + 1, by omega, HI1.out, hoF, hbF⟩
                    case measure => exact HM5.out
                    --}R25
                  · have hke : k = 48 := by omega
                    subst hke
                    rw [sch_end] at hown hLen
                    obtain ⟨g9, cap, rfl, hBg9, hg9, hW9, _⟩ := hown.at (by omega)
                    rw [hLen] at hown ⊢
                    clear hown
                    have hLK5 := HLK.out.below hbel (Nat.le_refl _) hwr
                    have hst := blkN_ok P iv_ok q
                    have HMIX : Hid (blkN iv P (q + 1) = (blkN iv P q).plus (rnds (blkN iv P q) (sched (blkQ P q)) 64)) := rfl
                    generalize sched (blkQ P q) = SC at *
                    generalize blkN iv P q = st at *
                    have hsz5 := hbel.size
                    have hmade : RW wr.heap.size (wr.alloc (.cells #[] 33)) (.slice (some ⟨wr.heap.size, 0, none⟩) 0 0) [] := RW.made _ _ (Nat.le_refl _)
                    have hbA : Below wr.heap.size wr (wr.alloc (.cells #[] 33)) := (Below.refl _ wr).alloc (Nat.le_refl _) _
                    have hwA : WordsAt (wr.alloc (.cells #[] 33)) gh st.list := hLK5.words.below hbA hLK5.gh_lt
                    clear hbel
                    go_wp2_with (at_builtin; refine wpList_appendW rfl _ _ rfl 103 rfl wr.heap.size _ [] st.list gh 8 ch rfl rfl rfl hmade hwA (by decide) (by decide) (by decide) (by simp) ?_)
                    intro v14 w8 gw
                    have hb8 := gw.below hmade hbA (by simp)
                    have ho8 := gw.own
                    rw [List.nil_append] at ho8
                    obtain ⟨g14, c14, rfl, hB14, hg14, hW14, _⟩ := ho8.at (by rw [S8.len]; decide)
                    rw [S8.len]
                    have hgg14 : gh < g14 := Nat.lt_of_lt_of_le hLK5.gh_lt hB14
                    have hLK8 := hLK5.below hb8 (Nat.le_refl _) (by omega)
                    have hW98 := hW9.below hb8 hg9
                    have hg98 : g9 < w8.heap.size := Nat.lt_of_lt_of_le hg9 hb8.size
                    have hsz8 := hb8.size
                    clear hmade hbA hwA gw ho8 hLK5 hW9 hb8 HLK hB14
                    have HLK8 : Hid _ := hLK8
                    clear hLK8
                    go_wp2
                    go_loopw [14, 106] (fun v i wr => ∃ k : Nat, k ≤ 64 ∧ i = .int .i64 (k : Int) ∧ (∃ g cv, v = .slice (some ⟨g, 0, none⟩) 8 cv ∧ g < wr.heap.size ∧ gh < g ∧ WordsAt wr g (rnds st SC k).list) ∧ Below w8.heap.size w8 wr) (fun _ i _ => 64 - (intOf i).toNat)
                    case atStart => exact ⟨0, by omega, rfl, ⟨_, _, rfl, hg14, hgg14, hW14⟩, Below.refl _ _⟩
                    case round =>
                      clear hW14 hg14
                      obtain ⟨k, hk6, rfl, ⟨gv, cv, rfl, hgv, hghv, hWv⟩, hBl⟩ := hrel
                      by_cases hk64 : k < 64
                      · have hok := rnds_ok SC hst k
                        have HR : Hid (rnd (rnds st SC k) (rootsL.getD k 0) (SC.getD k 0) = rnds st SC (k + 1)) := rfl
                        have hr : rootsL.getD k 0 < 18446744073709551616 := by have := roots_small.getD k; omega
                        have hS6 : S6 g9 (w.heap.size + 1) k (rootsL.getD k 0) gv SC (rnds st SC k).list wr.drew := ⟨⟨hW98.below hBl.drew hg98, Nat.lt_of_lt_of_le hg98 hBl.size⟩, by
                            show wr.cell? _ = _
                            rw [hBl.cell (p := ⟨w.heap.size + 1, k, none⟩) (lt_of_block HLK8.out.table)]; exact ul_cell HLK8.out.table k (by rw [roots_len]; exact hk64), hWv, hgv⟩
                        have HSTEP : Hid (∀ W : World, WordsIn W gv (rnds st SC k).list → _) := fun W h => step_n gv cv (rnds st SC k) (rootsL.getD k 0) (SC.getD k 0) W hok h
                        have hBl : Below w8.heap.size w8 wr.drew := hBl.drew
                        clear hWv hgv hok
                        obtain ⟨xk, hxk⟩ : ∃ x, SC.getD k 0 = x := ⟨_, rfl⟩
                        rw [hxk] at HSTEP HR
                        generalize rootsL.getD k 0 = r at *
                        have hSC : SC.length = 64 := hLen
                        generalize (rnds st SC k).list = cur at *
                        have hkl : (k : Int) < 64 := by omega
                        go_upto_region 30 with fail
                        --R30{
                        refine wp_region_held_drew (S := S6 g9 (w.heap.size + 1) k r gv SC cur) (by kernel_rfl) hS6 (fun hHeld => ?_)
                        change wpAnyH _ _ _ _ _ 12 (Array.replicate 12 false) _ _
                        refine take_op (i := 0) rfl (by kernel_rfl) (by kernel_rfl) (by kernel_rfl) (fun _ _ _ _ h => h) 109 rfl (.slice (some ⟨gv, 0, none⟩) 8 cv) (Or.inl ⟨by rfl, by intro w hSw; go_simp⟩) hHeld ?_
                        simp only [Act.put, List.setIfInBounds_toArray, List.set_cons_zero, List.set_cons_succ]
                        refine take_op (i := 1) rfl (by kernel_rfl) (by kernel_rfl) (by kernel_rfl) (fun _ _ _ _ h => h) 110 rfl (.slice (some ⟨w.heap.size + 1, 0, none⟩) 64 64) (Or.inl ⟨by rfl, by intro w hSw; go_simp⟩) hHeld ?_
                        simp only [Act.put, List.setIfInBounds_toArray, List.set_cons_zero, List.set_cons_succ]
                        refine take_op (i := 2) rfl (by kernel_rfl) (by kernel_rfl) (by kernel_rfl) (fun _ _ _ _ h => h) 111 rfl (.int .i64 (k : Int)) (Or.inl ⟨by rfl, by intro w hSw; go_simp⟩) hHeld ?_
                        simp only [Act.put, List.setIfInBounds_toArray, List.set_cons_zero, List.set_cons_succ]
                        refine take_op (i := 3) rfl (by kernel_rfl) (by kernel_rfl) (by kernel_rfl) (fun _ _ _ _ h => h) 112 rfl (.pointer (some ⟨w.heap.size + 1, k, none⟩)) (Or.inl ⟨by rfl, by intro w hSw; go_simp⟩) hHeld ?_
                        simp only [Act.put, List.setIfInBounds_toArray, List.set_cons_zero, List.set_cons_succ]
                        refine take_op (i := 4) rfl (by kernel_rfl) (by kernel_rfl) (by kernel_rfl) (fun _ _ _ _ h => h) 113 rfl (.int .u64 (r : Int)) (Or.inl ⟨by rfl, by intro W hSw; have hcT := hSw.2.1; go_simp⟩) hHeld ?_
                        simp only [Act.put, List.setIfInBounds_toArray, List.set_cons_zero, List.set_cons_succ]
                        refine take_op (i := 6) rfl (by kernel_rfl) (by kernel_rfl) (by kernel_rfl) (fun _ _ _ _ h => h) 115 rfl (.slice (some ⟨g9, 0, none⟩) 64 cap) (Or.inl ⟨by rfl, by intro w hSw; go_simp⟩) hHeld ?_
                        simp only [Act.put, List.setIfInBounds_toArray, List.set_cons_zero, List.set_cons_succ]
                        refine take_op (i := 7) rfl (by kernel_rfl) (by kernel_rfl) (by kernel_rfl) (fun _ _ _ _ h => h) 116 rfl (.int .i64 (k : Int)) (Or.inl ⟨by rfl, by intro w hSw; go_simp⟩) hHeld ?_
                        simp only [Act.put, List.setIfInBounds_toArray, List.set_cons_zero, List.set_cons_succ]
                        refine take_op (i := 8) rfl (by kernel_rfl) (by kernel_rfl) (by kernel_rfl) (fun _ _ _ _ h => h) 117 rfl (.pointer (some ⟨g9, k * 32, none⟩)) (Or.inl ⟨by rfl, by intro w hSw; go_simp⟩) hHeld ?_
                        simp only [Act.put, List.setIfInBounds_toArray, List.set_cons_zero, List.set_cons_succ]
                        refine take_load (i := 9) rfl (by kernel_rfl) (by kernel_rfl) (by kernel_rfl) (fun _ _ _ _ h => h) rfl 118 rfl _ rfl (g9) (k * 32) rfl (bt xk) (fun W h => hxk ▸ h.1.1 k (by rw [hSC]; exact hk64)) hHeld ?_
                        simp only [Act.put, List.setIfInBounds_toArray, List.set_cons_zero, List.set_cons_succ]
                        refine wpAnyH_ready (rs := [5]) (by kernel_rfl) (by simp) ?_
                        refine AllReadyH.cons rfl (fun K hK => ?_) AllReadyH.nil
                        refine arm_call hK rfl (some 114) rfl 13 #[.int .u64 (r : Int)] (by intro w; go_simp) (of_n r _ hr) ?_
                        intro w1 hb1
                        refine ⟨hHeld.next hb1, fun hHeld => ?_⟩
                        clear hK
                        have hBl := hBl.trans (hb1.mono (below_size hBl (Nat.le_refl _)))
                        simp only [Act.put, List.setIfInBounds_toArray, List.set_cons_zero, List.set_cons_succ]
                        refine wpAnyH_ready (rs := [10]) (by kernel_rfl) (by simp) ?_
                        refine AllReadyH.cons rfl (fun K hK => ?_) AllReadyH.nil
                        refine arm_callE hK rfl (some 119) rfl 17 #[.slice (some ⟨gv, 0, none⟩) 8 cv, .agg (bl (bt r)).toArray, .agg (bl (bt xk)).toArray] (by intro w; go_simp) (HSTEP.out _ hHeld.2.2) ?_
                        rintro v w2 ⟨g', rfl, hg1, hg2, hW2, hb2⟩
                        refine ⟨hHeld.next hb2, fun hHeld => ?_⟩
                        clear hK
                        have hgg : gh < g' := by have := hBl.size; have := HLK8.out.gh_lt; omega
                        have hBl := hBl.trans (hb2.mono (below_size hBl (Nat.le_refl _)))
                        simp only [Act.put, List.setIfInBounds_toArray, List.set_cons_zero, List.set_cons_succ]
                        refine take_op (i := 11) rfl (by kernel_rfl) (by kernel_rfl) (by kernel_rfl) (fun _ _ _ _ h => h) 14 rfl (.slice (some ⟨g', 0, none⟩) 8 8) (Or.inl ⟨by rfl, by intro w hSw; go_simp⟩) hHeld ?_
                        simp only [Act.put, List.setIfInBounds_toArray, List.set_cons_zero, List.set_cons_succ]
                        refine wpAnyH_done (by kernel_rfl) ?_ _
                        clear hHeld
                        go_wp2
                        go_roundw
                        case rel => exact ⟨k + 1, by omega, by go_num, ⟨g', 8, rfl, hg2, hgg, HR.out ▸ hW2⟩, hBl⟩
                        case measure => simp [intOf]; omega
                        --}R30
                      · have hke : k = 64 := by omega
                        subst hke
                        have hLK9 := HLK8.out.below hBl (Nat.le_refl _) (by omega)
                        clear HLK8 hW98 hg98
                        generalize rnds st SC 64 = tt at *
                        have hwr9 : w.heap.size ≤ wr.heap.size := by have := hBl.size; omega
                        clear hBl
                        go_wp2
                        go_loopw [123] (fun i wr => ∃ k : Nat, k ≤ 8 ∧ i = .int .i64 (k : Int) ∧ LK w gh gl P (plK st tt k) wr ∧ WordsIn wr gv tt.list ∧ w.heap.size ≤ wr.heap.size) (fun i _ => 8 - (intOf i).toNat)
                        case atStart => exact ⟨0, by omega, rfl, hLK9, ⟨hWv, hgv⟩, hwr9⟩
                        case round =>
                          clear hLK9 hWv hgv hwr9
                          obtain ⟨k, hk7, rfl, hL7, hW7, hwr7⟩ := hrel
                          by_cases hk8 : k < 8
                          · have HH : Hid (wr.drew.rangeAt gh (k * 32) (bl (bt (st.list.getD k 0)))) := by
                              have := hL7.words k (by rw [plK_len _ _ _ hk7]; exact hk8)
                              rw [plK_at _ _ _ hk8] at this
                              exact this
                            have HV : Hid (wr.drew.rangeAt gv (k * 32) (bl (bt (tt.list.getD k 0)))) := hW7.1 k hk8
                            have HSET : Hid (_ = _) := plK_set st tt k hk8
                            obtain ⟨xh, hxh⟩ : ∃ x, st.list.getD k 0 = x := ⟨_, rfl⟩
                            obtain ⟨xv, hxv⟩ : ∃ x, tt.list.getD k 0 = x := ⟨_, rfl⟩
                            rw [hxh] at HH HSET
                            rw [hxv] at HV HSET
                            obtain ⟨xs, HSM⟩ : ∃ x, Hid (sumW [xh, xv] = x) := ⟨_, rfl⟩
                            rw [HSM.out] at HSET
                            have HK : Hid (∀ w1 w2, Below wr.drew.heap.size wr.drew w1 → Below w1.heap.size w1 w2 → LK w gh gl P (plK st tt k) w2 ∧ WordsIn w2 gv tt.list ∧ w.heap.size ≤ w2.heap.size) := fun w1 w2 b1 b2 => by
                              have hL8 : LK w gh gl P (plK st tt k) w1 := (hL7.below (B := wr.heap.size) (Below.refl _ wr).drew (Nat.le_refl _) hwr7).below b1 (Nat.le_refl _) hwr7
                              have hs1 : w.heap.size ≤ w1.heap.size := Nat.le_trans hwr7 b1.size
                              refine ⟨hL8.below b2 (Nat.le_refl _) hs1, keepWords b2 (keepWords b1 ⟨hW7.1, hW7.2⟩), Nat.le_trans hs1 b2.size⟩
                            have HTH : Hid (∀ w1 w2, Below wr.drew.heap.size wr.drew w1 → Below w1.heap.size w1 w2 → w2.there gh (k * 32) 32) := fun w1 w2 b1 b2 j hj => by
                              have := (HK.out w1 w2 b1 b2).1.there (k * 32 + j) (by omega)
                              rwa [Nat.zero_add] at this
                            have HFIN : Hid (∀ w1 w2, Below wr.drew.heap.size wr.drew w1 → Below w1.heap.size w1 w2 → LK w gh gl P (plK st tt (k + 1)) (w2.setCells gh (k * 32) (bl (bt xs))) ∧ WordsIn (w2.setCells gh (k * 32) (bl (bt xs))) gv tt.list ∧ w.heap.size ≤ (w2.setCells gh (k * 32) (bl (bt xs))).heap.size) := fun w1 w2 b1 b2 => by
                              obtain ⟨c1, c2, c3⟩ := HK.out w1 w2 b1 b2
                              have hsz := (setCells_below (B := 0) (g := gh) (Nat.zero_le _) (bl (bt xs)) (k * 32) _ (Below.refl 0 w2)).size
                              refine ⟨by rw [← HSET.out]; exact c1.setW k xs hk8 hne hneT hgB, ⟨fun i hi => World.rangeAt_setCells_apart (c2.1 i hi) _ _ _ (.inl (by omega)), Nat.lt_of_lt_of_le c2.2 hsz⟩, Nat.le_trans c3 hsz⟩
                            have hkl : (k : Int) < 8 := by omega
                            clear hL7 hW7 HK HSET hxh hxv
                            go_upto_region 35 with fail
                            --R35{
                            refine wp_region_any (by kernel_rfl) ?_
                            change wpAny _ _ _ _ 14 (Array.replicate 14 false) _ (World.drew _)
                            refine takeW (i := 0) rfl (by kernel_rfl) (by kernel_rfl) (by kernel_rfl) (fun _ _ _ _ h => h) 126 rfl (.slice (some ⟨gh, 0, none⟩) 8 ch) (Or.inl ⟨by rfl, by intro w; go_simp⟩) ?_
                            simp only [Act.put, List.setIfInBounds_toArray, List.set_cons_zero, List.set_cons_succ]
                            refine takeW (i := 1) rfl (by kernel_rfl) (by kernel_rfl) (by kernel_rfl) (fun _ _ _ _ h => h) 127 rfl (.int .i64 (k : Int)) (Or.inl ⟨by rfl, by intro w; go_simp⟩) ?_
                            simp only [Act.put, List.setIfInBounds_toArray, List.set_cons_zero, List.set_cons_succ]
                            refine takeW (i := 2) rfl (by kernel_rfl) (by kernel_rfl) (by kernel_rfl) (fun _ _ _ _ h => h) 128 rfl (.slice (some ⟨gh, 0, none⟩) 8 ch) (Or.inl ⟨by rfl, by intro w; go_simp⟩) ?_
                            simp only [Act.put, List.setIfInBounds_toArray, List.set_cons_zero, List.set_cons_succ]
                            refine takeW (i := 3) rfl (by kernel_rfl) (by kernel_rfl) (by kernel_rfl) (fun _ _ _ _ h => h) 129 rfl (.int .i64 (k : Int)) (Or.inl ⟨by rfl, by intro w; go_simp⟩) ?_
                            simp only [Act.put, List.setIfInBounds_toArray, List.set_cons_zero, List.set_cons_succ]
                            refine takeW (i := 4) rfl (by kernel_rfl) (by kernel_rfl) (by kernel_rfl) (fun _ _ _ _ h => h) 130 rfl (.pointer (some ⟨gh, k * 32, none⟩)) (Or.inl ⟨by rfl, by intro w; go_simp⟩) ?_
                            simp only [Act.put, List.setIfInBounds_toArray, List.set_cons_zero, List.set_cons_succ]
                            refine takeW (i := 6) rfl (by kernel_rfl) (by kernel_rfl) (by kernel_rfl) (fun _ _ _ _ h => h) 132 rfl (.slice (some ⟨gv, 0, none⟩) 8 cv) (Or.inl ⟨by rfl, by intro w; go_simp⟩) ?_
                            simp only [Act.put, List.setIfInBounds_toArray, List.set_cons_zero, List.set_cons_succ]
                            refine takeW (i := 7) rfl (by kernel_rfl) (by kernel_rfl) (by kernel_rfl) (fun _ _ _ _ h => h) 133 rfl (.int .i64 (k : Int)) (Or.inl ⟨by rfl, by intro w; go_simp⟩) ?_
                            simp only [Act.put, List.setIfInBounds_toArray, List.set_cons_zero, List.set_cons_succ]
                            refine takeW (i := 8) rfl (by kernel_rfl) (by kernel_rfl) (by kernel_rfl) (fun _ _ _ _ h => h) 134 rfl (.pointer (some ⟨gv, k * 32, none⟩)) (Or.inl ⟨by rfl, by intro w; go_simp⟩) ?_
                            simp only [Act.put, List.setIfInBounds_toArray, List.set_cons_zero, List.set_cons_succ]
                            refine wpAny_ready (rs := [5, 9]) (by kernel_rfl) (by simp) ?_
                            refine AllReady.cons rfl (fun K hK => ?_) (AllReady.cons rfl (fun K hK => ?_) AllReady.nil)
                            · refine armW_load rfl 131 rfl 33 _ rfl gh (k * 32) rfl (bl (bt xh)) _ (HH.out) Tryd.underlying33 rfl (by rw [bl_len]; exact Tryd.infoW) (hK _ _ ?_)
                              clear hK
                              simp only [Act.put, List.setIfInBounds_toArray, List.set_cons_zero, List.set_cons_succ]
                              refine wpAny_ready (rs := [9]) (by kernel_rfl) (by simp) ?_
                              refine AllReady.cons rfl (fun K hK => ?_) AllReady.nil
                              refine armW_load rfl 135 rfl 33 _ rfl gv (k * 32) rfl (bl (bt xv)) _ (HV.out) Tryd.underlying33 rfl (by rw [bl_len]; exact Tryd.infoW) (hK _ _ ?_)
                              clear hK
                              simp only [Act.put, List.setIfInBounds_toArray, List.set_cons_zero, List.set_cons_succ]
                              refine wpAny_ready (rs := [10]) (by kernel_rfl) (by simp) ?_
                              refine AllReady.cons rfl (fun K hK => ?_) AllReady.nil
                              refine armW_buildW rfl 136 rfl 2 _ rfl [xh, xv] rfl (by decide) (by decide) (by first | rfl | go_simp) (fun w1 nw => hK _ _ ?_)
                              clear hK
                              have hE : WordsIn w1 _ [xh, xv] := ⟨nw.at', by rw [nw.size]; omega⟩
                              simp only [Act.put, List.setIfInBounds_toArray, List.set_cons_zero, List.set_cons_succ]
                              refine wpAny_ready (rs := [11]) (by kernel_rfl) (by simp) ?_
                              refine AllReady.cons rfl (fun K hK => ?_) AllReady.nil
                              refine armW_call rfl (some 137) rfl 15 #[.slice (some ⟨_, 0, none⟩) 2 2] (by intro w; go_simp) (add_n _ 2 2 _ xs _ hE rfl (by decide) HSM.out) ?_
                              intro w2 hb2
                              refine hK _ _ ?_
                              clear hK
                              simp only [Act.put, List.setIfInBounds_toArray, List.set_cons_zero, List.set_cons_succ]
                              refine takeW (i := 12) rfl (by kernel_rfl) (by kernel_rfl) (by kernel_rfl) (fun _ _ _ _ h => h) 138 rfl (.pointer (some ⟨gh, k * 32, none⟩)) (Or.inl ⟨by rfl, by intro w; go_simp⟩) ?_
                              simp only [Act.put, List.setIfInBounds_toArray, List.set_cons_zero, List.set_cons_succ]
                              refine wpAny_ready (rs := [13]) (by kernel_rfl) (by simp) ?_
                              refine AllReady.cons rfl (fun K hK => ?_) AllReady.nil
                              refine armW_storeW rfl rfl _ _ rfl gh (k * 32) (bt xs) (by rfl) (by rfl) (HTH.out _ _ nw.bel hb2) (hK _ _ ?_)
                              clear hK
                              simp only [Act.put, List.setIfInBounds_toArray, List.set_cons_zero, List.set_cons_succ]
                              refine wpAny_done (by kernel_rfl) ?_ _
                              have hF := HFIN.out _ _ nw.bel hb2
                              clear nw hb2 hE
                              go_wp2
                              go_roundw
                              case rel => exact ⟨k + 1, by omega, by go_num, hF⟩
                              case measure => simp [intOf]; omega
                            · refine armW_load rfl 135 rfl 33 _ rfl gv (k * 32) rfl (bl (bt xv)) _ (HV.out) Tryd.underlying33 rfl (by rw [bl_len]; exact Tryd.infoW) (hK _ _ ?_)
                              clear hK
                              simp only [Act.put, List.setIfInBounds_toArray, List.set_cons_zero, List.set_cons_succ]
                              refine wpAny_ready (rs := [5]) (by kernel_rfl) (by simp) ?_
                              refine AllReady.cons rfl (fun K hK => ?_) AllReady.nil
                              refine armW_load rfl 131 rfl 33 _ rfl gh (k * 32) rfl (bl (bt xh)) _ (HH.out) Tryd.underlying33 rfl (by rw [bl_len]; exact Tryd.infoW) (hK _ _ ?_)
                              clear hK
                              simp only [Act.put, List.setIfInBounds_toArray, List.set_cons_zero, List.set_cons_succ]
                              refine wpAny_ready (rs := [10]) (by kernel_rfl) (by simp) ?_
                              refine AllReady.cons rfl (fun K hK => ?_) AllReady.nil
                              refine armW_buildW rfl 136 rfl 2 _ rfl [xh, xv] rfl (by decide) (by decide) (by first | rfl | go_simp) (fun w1 nw => hK _ _ ?_)
                              clear hK
                              have hE : WordsIn w1 _ [xh, xv] := ⟨nw.at', by rw [nw.size]; omega⟩
                              simp only [Act.put, List.setIfInBounds_toArray, List.set_cons_zero, List.set_cons_succ]
                              refine wpAny_ready (rs := [11]) (by kernel_rfl) (by simp) ?_
                              refine AllReady.cons rfl (fun K hK => ?_) AllReady.nil
                              refine armW_call rfl (some 137) rfl 15 #[.slice (some ⟨_, 0, none⟩) 2 2] (by intro w; go_simp) (add_n _ 2 2 _ xs _ hE rfl (by decide) HSM.out) ?_
                              intro w2 hb2
                              refine hK _ _ ?_
                              clear hK
                              simp only [Act.put, List.setIfInBounds_toArray, List.set_cons_zero, List.set_cons_succ]
                              refine takeW (i := 12) rfl (by kernel_rfl) (by kernel_rfl) (by kernel_rfl) (fun _ _ _ _ h => h) 138 rfl (.pointer (some ⟨gh, k * 32, none⟩)) (Or.inl ⟨by rfl, by intro w; go_simp⟩) ?_
                              simp only [Act.put, List.setIfInBounds_toArray, List.set_cons_zero, List.set_cons_succ]
                              refine wpAny_ready (rs := [13]) (by kernel_rfl) (by simp) ?_
                              refine AllReady.cons rfl (fun K hK => ?_) AllReady.nil
                              refine armW_storeW rfl rfl _ _ rfl gh (k * 32) (bt xs) (by rfl) (by rfl) (HTH.out _ _ nw.bel hb2) (hK _ _ ?_)
                              clear hK
                              simp only [Act.put, List.setIfInBounds_toArray, List.set_cons_zero, List.set_cons_succ]
                              refine wpAny_done (by kernel_rfl) ?_ _
                              have hF := HFIN.out _ _ nw.bel hb2
                              clear nw hb2 hE
                              go_wp2
                              go_roundw
                              case rel => exact ⟨k + 1, by omega, by go_num, hF⟩
                              case measure => simp [intOf]; omega
                            --}R35
                          · have hke : k = 8 := by omega
                            subst hke
                            rw [plK_end, ← HMIX.out] at hL7
                            have e1 : N' = 512 * (n - (q + 1)) := by have := HNN.out; omega
                            go_wp2
                            go_roundw
                            case rel => exact ⟨q + 1, c', ad, by omega, by rw [e1], fun h => by rw [HAD.out (by omega), ← HQQ.out]; rfl, by omega, hL7, hwr7⟩
                            case measure => simp [lenOf]
        · have hqe : q = n := by omega
          subst hqe
          rw [Nat.sub_self, Nat.mul_zero]
          have hhl : (blkN iv P q).list.length = 8 := rfl
          generalize (blkN iv P q).list = hs at *
          clear had hc hn hn0
          obtain ⟨w6, e6⟩ : ∃ w6, w6 = wr := ⟨_, rfl⟩
          subst e6
          have HLK : Hid _ := hLK
          clear hLK
          obtain ⟨i0, hi8, hz8, hs8, hb8⟩ := info_parts Tryd.infoB8
          go_wp2
          go_loopw [17, 143] (fun v i wr => ∃ k : Nat, k ≤ 8 ∧ i = .int .i64 (k : Int) ∧ wr.ownsRow w6.heap.size 5 1 v (4 * k) (cs ((hs.take k).flatMap wb)) ∧ Below w6.heap.size w6 wr) (fun _ i _ => 8 - (intOf i).toNat)
          case atStart => exact ⟨0, by omega, rfl, World.ownsRow_made _ _ _ (Nat.le_refl _) (by decide) rfl, (Below.refl _ w6).alloc (Nat.le_refl _) _⟩
          case round =>
            obtain ⟨k, hk, rfl, hown, hbel⟩ := hrel
            by_cases hlt : k < 8
            · obtain ⟨w7, e7⟩ : ∃ w7, w7 = wr := ⟨_, rfl⟩
              subst e7
              have HX : Hid ((hs.take (k + 1)).flatMap wb = (hs.take k).flatMap wb ++ wb (hs.getD k 0)) := by unfold Hid; rw [take_next _ _ (by omega), List.flatMap_append]; simp
              have HR : Hid (w7.rangeAt gh (k * 32) (bl (bt (hs.getD k 0)))) := (HLK.out.words.below hbel HLK.out.gh_lt) k (by omega)
              generalize hs.getD k 0 = x at *
              generalize (hs.take k).flatMap wb = A at *
              have hkl : (k : Int) < 8 := by omega
              have hz := (zero_of_info Tryd.zeroW).1
              have hsz7 := hbel.size
              go_wp2_with (first | refine wpList_load_mid rfl 33 _ rfl gh (k * 32) rfl (bl (bt x)) _ HR.out Tryd.underlying33 rfl (by rw [bl_len]; exact Tryd.infoW) ?_ | refine wpList_store_row rfl 33 _ _ rfl w7.heap.size (bw (bt x)) rfl rfl 33 zw (heap_alloc_new _ _) (iW _) (by rw [HN.out]; exact oW _ _) (bw_one _) ?_)
              clear hz HR
              have HD : Hid (((w7.alloc (.cells zw 33)).setRow w7.heap.size (bw (bt x))).heap[w7.heap.size]? = some (.cells (bw (bt x)) 33 (0, 0)) ∧ Below w7.heap.size w7 ((w7.alloc (.cells zw 33)).setRow w7.heap.size (bw (bt x)))) :=
                ⟨setRow_heap _ _ _ _ _ _ (heap_alloc_new _ _), below_setRow ((Below.refl _ w7).alloc (Nat.le_refl _) _) (Nat.le_refl _) _⟩
              have hneD : u17.ownBlock ≠ some w7.heap.size := fun e => by have := (hown.lt _ e).2; omega
              have hown7 : ((w7.alloc (.cells zw 33)).setRow w7.heap.size (bw (bt x))).ownsRow w6.heap.size 5 1 u17 (4 * k) (cs A) := by
                obtain ⟨q1, q2⟩ := hown
                refine ⟨q1, ?_⟩
                rcases q2 with q | ⟨g, cap, cur, r1, r2, r3, r4⟩
                · exact .inl q
                · exact .inr ⟨g, cap, cur, r1, r2, by rw [HD.out.2.block g (lt_of_block r3)]; exact r3, r4⟩
              clear hown
              generalize (w7.alloc (.cells zw 33)).setRow w7.heap.size (bw (bt x)) = W0 at *
              go_loopw [17, 20] (fun v i wr => ∃ j : Nat, j ≤ 4 ∧ i = .int .i64 ((8 * j : Nat) : Int) ∧ wr.ownsRow w6.heap.size 5 1 v (4 * k + j) (cs (A ++ (wb x).take j)) ∧ v.ownBlock ≠ some w7.heap.size ∧ wr.heap[w7.heap.size]? = some (.cells (bw (bt x)) 33 (0, 0)) ∧ Below w6.heap.size w6 wr) (fun _ i _ => 32 - (intOf i).toNat)
              case atStart => exact ⟨0, by omega, rfl, by simpa using hown7, hneD, HD.out.1, hbel.trans (HD.out.2.mono hsz7)⟩
              case round =>
                clear hown7 hneD HD hbel
                obtain ⟨j, hj, rfl, hown, hneD, hD, hbel⟩ := hrel
                by_cases hj4 : j < 4
                · have HT4 : Hid (_ = _) := wb_take x j hj4
                  have HC : Hid (∀ m, m < 32 → wr.cell? ⟨w7.heap.size, m, none⟩ = some (.bool (bt x m))) := fun m hm => by rw [cell_of_row _ _ _ _ _ _ hD, bw_at _ _ hm]
                  have HI1 : Hid (Value.int .i64 (((8 * j : Nat) : Int) + 8) = Value.int .i64 ((8 * (j + 1) : Nat) : Int)) := by unfold Hid; go_num
                  have HM : Hid (32 - (intOf (Value.int IntKind.i64 (((8 * j : Nat) : Int) + 8))).toNat < 32 - (intOf (Value.int IntKind.i64 ((8 * j : Nat) : Int))).toNat) := by unfold Hid; simp [intOf]; omega
                  have HWS : Hid (∀ m, m < 8 → wbK x j (m + 1) = 2 * wbK x j m + (bt x (8 * j + m)).toNat) := fun m hm => wbK_step x j m hj4 hm
                  have hJ : 8 * j < 32 := by omega
                  have hJ8 : 8 * j + 8 ≤ 32 := by omega
                  generalize hJJ : 8 * j = J at *
                  have HJJ : Hid (8 * j = J) := hJJ
                  clear hJJ
                  have hJi : (J : Int) < 32 := by omega
                  go_wp2
                  go_loop [21, 22] (fun cv kv => ∃ m : Nat, m ≤ 8 ∧ cv = .int .u8 (wbK x j m : Int) ∧ kv = .int .i64 ((J + m : Nat) : Int)) (fun _ kv => J + 8 - (intOf kv).toNat)
                  case atStart => exact ⟨0, by omega, by rw [wbK_zero]; rfl, rfl⟩
                  case round =>
                    obtain ⟨m, hm, rfl, rfl⟩ := hrel
                    by_cases hm8 : m < 8
                    · have hc := HC.out (J + m) (by omega)
                      have hws := HWS.out m hm8
                      have hlt2 : wbK x j m < 128 := Nat.lt_of_lt_of_le (wbK_lt x j m) (Nat.pow_le_pow_right (n := 2) (j := 7) (by decide) (by omega))
                      have HM2 : Hid (J + 8 - (intOf (Value.int IntKind.i64 (((J + m : Nat) : Int) + 1))).toNat < J + 8 - (intOf (Value.int IntKind.i64 ((J + m : Nat) : Int))).toNat) := by unfold Hid; simp [intOf]; omega
                      have HI2 : Hid (Value.int .i64 (((J + m : Nat) : Int) + 1) = Value.int .i64 ((J + (m + 1) : Nat) : Int)) := by unfold Hid; go_num
                      have HW2 : Hid (wbK x j (m + 1) = _) := hws
                      clear hws
                      generalize wbK x j m = c0 at *
                      have hw1 : IntKind.u8.wrap (2 * (c0 : Int)) = 2 * (c0 : Int) := by rw [IntKind.wrap_u8]; omega
                      have hw2 : IntKind.u8.wrap (2 * (c0 : Int) + 1) = 2 * (c0 : Int) + 1 := by rw [IntKind.wrap_u8]; omega
                      have hKK : J + m < 32 := by omega
                      have hK8 : J + m < J + 8 := by omega
                      generalize hJm : J + m = K at *
                      clear hJm
                      have hKi : (K : Int) < (J : Int) + 8 := by omega
                      have hK32 : (K : Int) < 32 := by omega
                      have hw3 : IntKind.i64.wrap ((J : Int) + 8) = (J : Int) + 8 := by rw [IntKind.wrap_i64]; omega
                      cases hb : bt x K
                      · rw [hb] at hc HW2
                        go_wp2
                        go_round
                        case rel => exact ⟨m + 1, by omega, by rw [HW2.out]; simp, HI2.out⟩
                        case measure => exact HM2.out
                      · rw [hb] at hc HW2
                        go_wp2
                        go_round
                        case rel => exact ⟨m + 1, by omega, by rw [HW2.out]; simp, HI2.out⟩
                        case measure => exact HM2.out
                    · have hm8' : m = 8 := by omega
                      subst hm8'
                      have hw3 : IntKind.i64.wrap ((J : Int) + 8) = (J : Int) + 8 := by rw [IntKind.wrap_i64]; omega
                      have hc256 : wbK x j 8 < 256 := wbK_lt x j 8
                      generalize wbK x j 8 = c0 at *
                      go_wp2_with (at_builtin; refine wpList_append_lies _ rfl _ _ 40 rfl w6.heap.size 5 i0 (.int .u8 0) 1 1 Tryd.underlying40 hi8 hz8 hs8 hb8 rfl (by decide) _ _ _ rfl (hown.alloc _) ⟨wr.heap.size, 0, none⟩ 1 1 [.int .u8 (c0 : Int)] rfl rfl (cell_one_new _ _ _) ?c2 (by decide) ?c3 ?c4 ?c5 _ rfl ?_)
                      case c2 => first | rfl | (intro u hu; simp at hu; subst hu; rfl)
                      case c3 => unfold maxLen; omega
                      case c4 => omega
                      case c5 => have := hbel.size; simp; omega
                      intro g' cap' w1 hown' hgrow hlies hlt'
                      have hbF := bel_append hbel (below_size hbel (Nat.le_refl _)) hown hgrow
                      have hDl := lt_of_block hD
                      have hneF : (Value.slice (some ⟨g', 0, none⟩) (4 * k + j + 1) cap').ownBlock ≠ some w7.heap.size := fun e => by
                        have e' : g' = w7.heap.size := by simpa [Value.ownBlock] using e
                        rcases hlies with h | h
                        · exact hneD (by rw [h, e'])
                        · omega
                      have hDF : w1.heap[w7.heap.size]? = some (.cells (bw (bt x)) 33 (0, 0)) := by
                        rw [hgrow.block _ (by rw [World.size_alloc]; omega) (fun e => hneD e.symm), heap_alloc_old _ _ hDl]; exact hD
                      have hoF : w1.ownsRow w6.heap.size 5 1 (.slice (some ⟨g', 0, none⟩) (4 * k + j + 1) cap') (4 * k + (j + 1)) (cs (A ++ (wb x).take (j + 1))) := by
                        rw [HT4.out, ← List.append_assoc, cs_snoc]; exact hown'
                      clear hown hown' hgrow hlies hneD hD hbel
                      go_wp2
                      go_roundw
                      case rel => exact ⟨j + 1, by omega, HI1.out, hoF, hneF, hDF, hbF⟩
                      case measure => exact HM.out
                · have hj4' : j = 4 := by omega
                  subst hj4'
                  rw [show (wb x).take 4 = wb x from rfl, ← HX.out] at hown
                  clear hneD hD
                  go_wp2
                  go_roundw
                  case rel => exact ⟨k + 1, by omega, by go_num, hown, hbel⟩
                  case measure => simp [intOf]; omega
            · have hke : k = 8 := by omega
              subst hke
              rw [List.take_of_length_le (by omega)] at hown
              have hcv := conv_bs (P := Tryd.prog) (src := 40) (e := 5) (dst := 9) Tryd.underlying40 Tryd.underlying5 Tryd.underlying9 hown
              have hbF := HLK.out.bel.trans (hbel.mono hwr)
              clear hown hbel HLK
              go_wp2
              go_ret
              exact ⟨by rw [HSH.out]; rfl, hbF⟩
end Go.Proofs.YtlnagnkiadlfpaaDoor
