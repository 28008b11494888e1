/- Contracts of match.bytesOf, repeatsOf and Tokens. -/
import Derived.Test.YtibnkpfginffhacFindL
import Derived.Deep.RegionHeld
import Derived.Laws.MakeOwn
namespace Go.Proofs.Ytibnkpfginffhac
open Go.RowKit Go.WideMaps Go.Maps
attribute [local go_sem ↓] Go.wp_at_zero Go.wp_at_succ
set_option linter.unusedVariables false

theorem longest_any (B gf gm : Nat) (s : ByteArray) (tr n at_ : Nat) (w : World) (hF : FinderAt w B gf gm s tr n) (hs : s.size ≤ 100000000) (hn : n ≤ at_) (ha : at_ ≤ s.size) (htr : tr ≤ 1000000) (hB : B ≤ w.heap.size) :
    Calls Try.prog 48 #[.pointer (some ⟨gf, 0, none⟩), .int .i64 (at_ : Int)] w fun e w' => e = .returned (tv (longF s tr at_)) ∧ (∃ n', n' ≤ at_ ∧ FinderAt w' B gf gm s tr n') ∧ Below B w w' ∧ KeptT w w' := by
  by_cases h3 : at_ + 3 ≤ s.size
  · refine (longest_long B gf gm s tr n at_ w hF hs hn htr hB h3).mono ?_
    rintro e w' ⟨h1, h2, h4⟩
    exact ⟨h1, ⟨at_, Nat.le_refl _, h2⟩, h4⟩
  · refine (longest_short B gf gm s tr n at_ w hF hs ha (by omega) hB (by omega)).mono ?_
    rintro e w' ⟨h1, h2, h4⟩
    exact ⟨h1, ⟨_, by unfold seenTo; split <;> omega, h2⟩, h4⟩
theorem Try.infoT : (Try.prog.info? 57).map (fun i => (i.zero, i.size, i.bytes)) = some (some (.agg #[.int .u8 0, .int .i64 0, .int .i64 0]), 3, 24) := by kernel_rfl
theorem own_keptT {w w' : World} {B n : Nat} {v : Value} {xs : List Value} (h : w.ownsRow B 57 3 v n xs) (hk : KeptT w w') : w'.ownsRow B 57 3 v n xs := by
  refine ⟨h.1, ?_⟩
  rcases h.2 with h | ⟨g, cap, cur, h1, h2, h3, h4⟩
  · exact .inl h
  · exact .inr ⟨g, cap, cur, h1, h2, hk.2 _ _ _ h3, h4⟩
theorem FinderAt.grown {w w' : World} {B gf gm n k : Nat} {s : ByteArray} {tr : Nat} {v : Value} {xs : List Value} (h : FinderAt w B gf gm s tr n) (hO : w.ownsRow B 57 3 v k xs) (hg : w.grownBy w' v.ownBlock) : FinderAt w' B gf gm s tr n := by
  obtain ⟨h1, h2, bv, D, h3, h4, h5, h6⟩ := h
  refine ⟨h1, h2, bv, D, grown_block hg h3 (own_ne hO h3 (by decide)), h4.kept hg (map_ne hO h4), h5, h6.kept hg ?_⟩
  rcases hO.2 with ⟨rfl, _⟩ | ⟨g, cap, cur, rfl, _, hh, _⟩
  · cases hv : bv.ownBlock with
    | none => exact .inl rfl
    | some j => exact .inr (by simp [Value.ownBlock])
  · exact .inr (fun e => own_ne h6 hh (by decide) e.symm)
theorem three_new (w : World) (t : Tok) : ∀ j u, [Value.int .u8 (t.b : Int), .int .i64 t.l, .int .i64 t.d][j]? = some u → (w.alloc (.cells #[.int .u8 (t.b : Int), .int .i64 t.l, .int .i64 t.d] 57)).cell? ((⟨w.heap.size, 0, none⟩ : Addr).add j) = some u :=
  World.news_of_block (heap_alloc_new w _)
set_option maxRecDepth 100000 in
set_option maxHeartbeats 1000000 in
theorem bytesOf_any (s : ByteArray) (w : World) (hs : s.size ≤ 100000000) :
    Calls Try.prog 33 #[.string s] w fun e w' => ∃ v, e = .returned v ∧ TR w' v (tok0 s) ∧ Below w.heap.size w w' := by
  obtain ⟨i0, hi, hz0, hz1, hz2⟩ := info_parts Try.infoT
  go_enter Try.func33, Try.ntmps33
  go_wp2_with (at_make; refine wpList_make_own _ rfl _ _ 51 rfl w.heap.size 57 i0 (.agg #[.int .u8 0, .int .i64 0, .int .i64 0]) 3 Try.underlying51 hi hz0 hz1 .i64 .i64 _ s.size rfl rfl (by omega) (by rw [hz2]; omega) (by unfold maxLen; omega) (Nat.le_refl _) ?_; intro w1 hown hgrow)
  have hst : Below w.heap.size w w1 := (Below.refl _ w).grown hgrow (Nat.le_refl _) (fun k hk => by cases hk)
  clear hgrow
  go_loopw [3, 10] (fun v i wr => ∃ k : Nat, k ≤ s.size ∧ i = .int .i64 (k : Int) ∧ wr.ownsRow w.heap.size 57 3 v k (tcs ((tok0 s).take k)) ∧ Below w.heap.size w wr) (fun _ i _ => s.size - (intOf i).toNat)
  case atStart => exact ⟨0, by omega, rfl, hown, hst⟩
  case round =>
    clear hst hown
    obtain ⟨k, hk, rfl, hO, hB⟩ := hrel
    by_cases hlt : k < s.size
    · have HTK : Hid ((tok0 s).take (k + 1) = (tok0 s).take k ++ [⟨byt s k, 0, 0⟩]) := tok0_take s k hlt
      have hbe := byt_eq s k hlt
      have h3n := three_new wr ⟨byt s k, 0, 0⟩
      simp only at h3n
      have HN3 : Hid _ := h3n
      clear h3n
      have hki : (k : Int) < (s.size : Int) := by omega
      have hki0 : (0 : Int) ≤ (k : Int) := by omega
      have hsz := hB.size
      go_wp2_with (at_builtin; refine wpList_append_own _ rfl _ _ 51 rfl w.heap.size 57 i0 (.agg #[.int .u8 0, .int .i64 0, .int .i64 0]) 3 24 Try.underlying51 hi hz0 hz1 hz2 rfl (by decide) _ _ _ rfl (hO.alloc _) ⟨wr.heap.size, 0, none⟩ 1 1 [.int .u8 (byt s k : Int), .int .i64 0, .int .i64 0] rfl rfl HN3.out ?c2 ?c3 ?c4 ?c5 ?_)
      case c2 => intro y hy; simp at hy; rcases hy with rfl | rfl <;> rfl
      case c3 => unfold maxLen; omega
      case c4 => omega
      case c5 => rw [World.size_alloc]; omega
      intro v8 w8 hown hg _
      have HO8 : Hid (w8.ownsRow w.heap.size 57 3 v8 (k + 1) (tcs ((tok0 s).take (k + 1)))) := by unfold Hid; rw [HTK.out, tcs_snoc]; exact hown
      have HB8 : Hid (Below w.heap.size w w8) := (hB.alloc hsz _).grown hg (by rw [World.size_alloc]; omega) (fun q hq => (hO.lt q hq).1)
      clear hown hg hO hB
      go_wp2
      go_roundw
      case rel => exact ⟨k + 1, by omega, by go_num, HO8.out, HB8.out⟩
      case measure => simp [intOf]; omega
    · obtain rfl : k = s.size := by omega
      rw [List.take_of_length_le (by rw [tok0_len]; exact Nat.le_refl _)] at hO
      go_wp2
      go_ret
      exact ⟨_, rfl, TR.own (by rw [tok0_len]; exact hO), hB⟩
theorem three_one (b l d : Int) : ∀ u ∈ [Value.int .u8 b, .int .i64 l, .int .i64 d], u.oneCell' = true := by
  intro u hu
  simp only [List.mem_cons, List.not_mem_nil, or_false] at hu
  rcases hu with rfl | rfl | rfl <;> rfl
theorem field_len (b l d : Int) (W : World) : (Instr.field 57 (.agg #[.int .u8 b, .int .i64 l, .int .i64 d]) 1).run Try.prog W = .ok (.int .i64 l) W := by kernel_rfl
/-- repeatsOf's loop: these tokens, n places seen. -/
def RepAt (w wr : World) (B gf gm : Nat) (s : ByteArray) (tr n : Nat) (o : Value) (acc : List Tok) : Prop := wr.ownsRow B 57 3 o acc.length (tcs acc) ∧ FinderAt wr B gf gm s tr n ∧ Below B w wr
theorem RepAt.step {w wr w' : World} {B gf gm : Nat} {s : ByteArray} {tr n n' : Nat} {o : Value} {acc : List Tok} (h : RepAt w wr B gf gm s tr n o acc) (hF : FinderAt w' B gf gm s tr n') (hB : Below B wr w') (hK : KeptT wr w') : RepAt w w' B gf gm s tr n' o acc :=
  ⟨own_keptT h.1 hK, hF, h.2.2.trans hB⟩
theorem RepAt.alloc {w wr : World} {B gf gm : Nat} {s : ByteArray} {tr n : Nat} {o : Value} {acc : List Tok} (h : RepAt w wr B gf gm s tr n o acc) (hB : B ≤ wr.heap.size) (x : Obj) : RepAt w (wr.alloc x) B gf gm s tr n o acc :=
  ⟨h.1.alloc x, h.2.1.below ((Below.refl _ wr).alloc (Nat.le_refl _) x), h.2.2.alloc hB x⟩
theorem RepAt.put {w wr w' : World} {B gf gm gt : Nat} {s : ByteArray} {tr n : Nat} {o : Value} {acc : List Tok} {c : Array Value} (h : RepAt w wr B gf gm s tr n o acc) (hb : wr.heap[gt]? = some (.cells c 57 (0, 0))) (hne : o.ownBlock ≠ some gt) (hBg : B ≤ gt) (hg : wr.grownBy w' (some gt)) : RepAt w w' B gf gm s tr n o acc :=
  ⟨h.1.kept hg (.inr hne), h.2.1.setTok hb hg, h.2.2.grown hg (Nat.le_trans hBg (Nat.le_of_lt (Array.getElem?_eq_some_iff.1 hb).1)) (fun j hj => by cases hj; exact hBg)⟩
theorem RepAt.app {w wr w' : World} {B gf gm : Nat} {s : ByteArray} {tr n : Nat} {o o' : Value} {acc acc' : List Tok} {x : Obj} (h : RepAt w wr B gf gm s tr n o acc) (hB : B ≤ wr.heap.size) (hg : (wr.alloc x).grownBy w' o.ownBlock) (hO : w'.ownsRow B 57 3 o' acc'.length (tcs acc')) : RepAt w w' B gf gm s tr n o' acc' :=
  ⟨hO, (h.alloc hB x).2.1.grown (h.1.alloc x) hg, (h.2.2.alloc hB x).grown hg (by rw [World.size_alloc]; omega) (fun j hj => (h.1.lt j hj).1)⟩
theorem RepAt.drewN {w wr : World} {B gf gm : Nat} {s : ByteArray} {tr n : Nat} {o : Value} {acc : List Tok} (h : RepAt w wr B gf gm s tr n o acc) (m : Nat) : RepAt w (wr.drewN m) B gf gm s tr n o acc := ⟨h.1, h.2.1, below_drewN h.2.2 m⟩
/-- Is the next place's repeat longer? -/
def lazyB (s : ByteArray) (lv at_ : Nat) : Bool := decide (0 < (longF s (2 ^ lv) at_).l ∧ (longF s (2 ^ lv) at_).l < 4 * (lv : Int) ∧ (longF s (2 ^ lv) at_).l < (longF s (2 ^ lv) (at_ + 1)).l)
theorem stepT_byte {s : ByteArray} {lv at_ : Nat} (h : lazyB s lv at_ = true ∨ (longF s (2 ^ lv) at_).l = 0) : stepT s lv at_ = ⟨byt s at_, 0, 0⟩ := by
  unfold stepT
  rw [if_neg (fun hh => by
    rcases h with h | h
    · unfold lazyB at h; rw [decide_eq_true_eq] at h; exact hh.2 ⟨h.2.1, h.2.2⟩
    · omega)]
theorem stepT_rep {s : ByteArray} {lv at_ : Nat} (h : lazyB s lv at_ = false) (h0 : ¬ (longF s (2 ^ lv) at_).l = 0) : stepT s lv at_ = longF s (2 ^ lv) at_ := by
  have hn := (longF_good s (2 ^ lv) at_).nonneg
  unfold stepT
  unfold lazyB at h
  rw [decide_eq_false_iff_not] at h
  rw [if_pos ⟨by omega, fun hh => h ⟨by omega, hh.1, hh.2⟩⟩]
theorem put1_heap {w : World} {b : Nat} {x y z : Value} {ty : TypeId} (h : w.heap[b]? = some (.cells #[x, y, z] ty (0, 0))) (u : Value) : (w.setCell ⟨b, 0, none⟩ u).heap[b]? = some (.cells #[u, y, z] ty (0, 0)) := by
  rw [heap_setCell_same _ _ _ _ _ _ h]; rfl
set_option maxRecDepth 100000 in
set_option maxHeartbeats 4000000 in
theorem repeats_any (s : ByteArray) (lv : Nat) (w : World) (hs : s.size ≤ 100000000) (hl1 : 1 ≤ lv) (hl9 : lv ≤ 9) :
    Calls Try.prog 34 #[.string s, .int .i64 (lv : Int)] w fun e w' => ∃ v, e = .returned v ∧ TR w' v (tokK s lv s.size).1 ∧ Below w.heap.size w w' := by
  obtain ⟨i0, hi, hz0, hz1, hz2⟩ := info_parts Try.infoT
  have hmm := @run_makeMap Try.prog
  have h512 : 2 ^ lv ≤ 2 ^ 9 := Nat.pow_le_pow_right (by decide) hl9
  have hlz : ¬ (lv : Int) < 0 := by omega
  have HF0 : Hid (FinderAt ((w.alloc (.map #[] 0)).alloc (.cells #[.string s, .int .i64 ((2 ^ lv : Nat) : Int), .map (some w.heap.size), .slice none 0 0] 113)) w.heap.size (w.heap.size + 1) w.heap.size s (2 ^ lv) 0) := by
    refine ⟨by omega, Nat.le_refl _, .slice none 0 0, .map [], ?_, (World.ownsMap_made w _ _ _).alloc _, seen_start s, World.ownsRow_nil _ _ _ _⟩
    have := heap_alloc_new (w.alloc (.map #[] 0)) (.cells #[.string s, .int .i64 ((2 ^ lv : Nat) : Int), .map (some w.heap.size), .slice none 0 0] 113)
    rw [World.size_alloc] at this; exact this
  have HB0 : Hid (Below w.heap.size w ((w.alloc (.map #[] 0)).alloc (.cells #[.string s, .int .i64 ((2 ^ lv : Nat) : Int), .map (some w.heap.size), .slice none 0 0] 113))) := ((Below.refl _ w).alloc (Nat.le_refl _) _).alloc (by rw [World.size_alloc]; omega) _
  go_enter Try.func34, Try.ntmps34
  go_upto_region 1 with fail
  go_cut [5] (fun p wx => p = .pointer (some ⟨w.heap.size + 1, 0, none⟩) ∧ wx = (w.alloc (.map #[] 0)).alloc (.cells #[.string s, .int .i64 ((2 ^ lv : Nat) : Int), .map (some w.heap.size), .slice none 0 0] 113))
  case first =>
    rcases (show lv = 1 ∨ lv = 2 ∨ lv = 3 ∨ lv = 4 ∨ lv = 5 ∨ lv = 6 ∨ lv = 7 ∨ lv = 8 ∨ lv = 9 by omega) with rfl | rfl | rfl | rfl | rfl | rfl | rfl | rfl | rfl
    all_goals
      clear HF0 HB0
      go_wp2
      go_meet
      exact ⟨rfl, rfl⟩
  case rest =>
    obtain ⟨rfl, rfl⟩ := hcut
    clear hmm
    generalize World.alloc (World.alloc w _) _ = W1 at *
    go_wp2
    go_loopw [6, 7] (fun o a wr => ∃ (k n : Nat), a = .int .i64 ((tokK s lv k).2 : Int) ∧ n ≤ (tokK s lv k).2 ∧ RepAt w wr w.heap.size (w.heap.size + 1) w.heap.size s (2 ^ lv) n o (tokK s lv k).1) (fun _ a _ => s.size - (intOf a).toNat)
    case atStart => exact ⟨0, 0, rfl, Nat.zero_le _, World.ownsRow_nil _ _ _ _, HF0.out, HB0.out⟩
    case round =>
      clear HF0 HB0
      obtain ⟨k, n, rfl, hn, hR⟩ := hrel
      have hfar := tokK_far s lv k
      by_cases hlt : (tokK s lv k).2 < s.size
      · have HST : Hid (tokK s lv (k + 1) = ((tokK s lv k).1 ++ [stepT s lv (tokK s lv k).2], (tokK s lv k).2 + (wid (stepT s lv (tokK s lv k).2)).toNat)) := tokK_step hlt
        have HOK : Hid (_ ∧ _) := stepT_ok s lv _ hlt
        generalize (tokK s lv k).2 = p at *
        generalize (tokK s lv k).1 = acc at *
        have hpi : (p : Int) < (s.size : Int) := by omega
        have hp0 : (0 : Int) ≤ (p : Int) := by omega
        have hsz := hR.2.2.size
        have hacc : acc.length ≤ p := hfar.2.2
        have HLG : Hid (Calls _ _ _ _ _) := longest_any w.heap.size (w.heap.size + 1) w.heap.size s (2 ^ lv) n p wr hR.2.1 hs hn (by omega) (by omega) hsz
        have HR : Hid (RepAt w wr w.heap.size (w.heap.size + 1) w.heap.size s (2 ^ lv) n _ acc) := hR
        have hgn := (longF_good s (2 ^ lv) p).nonneg
        have hgz : (longF s (2 ^ lv) p).l = 0 → longF s (2 ^ lv) p = zeroT := fun h => by
          rcases longF_good s (2 ^ lv) p with h1 | h1
          · exact h1
          · omega
        have HGZ : Hid _ := hgz
        clear hR hfar hgz
        go_wp2_with fail
        refine (Hid.out HLG : Calls _ _ _ _ _).mono ?_
        rintro e w1 ⟨rfl, ⟨n1, hn1, hF1⟩, hB1, hK1⟩
        have hR1 := HR.out.step hF1 hB1 hK1
        have HSB : Hid (lazyB s lv p = true ∨ (longF s (2 ^ lv) p).l = 0 → stepT s lv p = ⟨byt s p, 0, 0⟩) := stepT_byte
        have HSR : Hid (lazyB s lv p = false → ¬ (longF s (2 ^ lv) p).l = 0 → stepT s lv p = longF s (2 ^ lv) p) := stepT_rep
        have HLZ : Hid (lazyB s lv p = decide (0 < (longF s (2 ^ lv) p).l ∧ (longF s (2 ^ lv) p).l < 4 * (lv : Int) ∧ (longF s (2 ^ lv) p).l < (longF s (2 ^ lv) (p + 1)).l)) := rfl
        have HLG2 : Hid (∀ W, FinderAt W w.heap.size (w.heap.size + 1) w.heap.size s (2 ^ lv) n1 → w.heap.size ≤ W.heap.size → Calls Try.prog 48 #[.pointer (some ⟨w.heap.size + 1, 0, none⟩), .int .i64 ((p : Int) + 1)] W.drew fun e w' => e = .returned (tv (longF s (2 ^ lv) (p + 1))) ∧ (∃ n', n' ≤ p + 1 ∧ FinderAt w' w.heap.size (w.heap.size + 1) w.heap.size s (2 ^ lv) n') ∧ Below w.heap.size W w' ∧ KeptT W w') := fun W h hz => (longest_any w.heap.size (w.heap.size + 1) w.heap.size s (2 ^ lv) n1 (p + 1) W.drew h hs (by omega) (by omega) (by omega) hz).mono (fun e w' h => ⟨h.1, h.2.1, (Below.refl _ W).drew.trans h.2.2.1, h.2.2.2⟩)
        rw [tv_eq]
        have hbe := byt_eq s p hlt
        generalize longF s (2 ^ lv) p = T at *
        generalize longF s (2 ^ lv) (p + 1) = T2 at *
        generalize lazyB s lv p = LZ at *
        obtain ⟨tb, tl, td⟩ := T
        obtain ⟨ub, ul, ud⟩ := T2
        simp only at HSB HSR HLZ hgn HGZ
        rw [tv_eq] at HLG2
        simp only at HLG2
        have hsz1 : w.heap.size ≤ w1.heap.size := hR1.2.2.size
        have HNE : Hid (_ ≠ some w1.heap.size) := fun e => by have := (hR1.1.lt _ e).2; omega
        have HR2 : Hid (RepAt w (w1.alloc (.cells #[.int .u8 (tb : Int), .int .i64 tl, .int .i64 td] 57)) w.heap.size (w.heap.size + 1) w.heap.size s (2 ^ lv) n1 _ acc) := hR1.alloc hsz1 _
        have HG2 : Hid ((w1.alloc (.cells #[.int .u8 (tb : Int), .int .i64 tl, .int .i64 td] 57)).heap[w1.heap.size]? = some (.cells #[.int .u8 (tb : Int), .int .i64 tl, .int .i64 td] 57 (0, 0))) := heap_alloc_new w1 _
        clear HLG HR hF1 hB1 hK1 hR1
        go_upto_region 6 with fail
        go_cut [41] (fun c wx => c = .bool LZ ∧ wx.heap[w1.heap.size]? = some (.cells #[.int .u8 (tb : Int), .int .i64 tl, .int .i64 td] 57 (0, 0)) ∧ ∃ n2, n2 ≤ p + 1 ∧ RepAt w wx w.heap.size (w.heap.size + 1) w.heap.size s (2 ^ lv) n2 u6 acc)
        case first =>
          have c1 : (w1.alloc (.cells #[.int .u8 (tb : Int), .int .i64 tl, .int .i64 td] 57)).cell? ⟨w1.heap.size, 1, none⟩ = some (.int .i64 tl) := (tok_cell HG2.out).2.1
          by_cases h1 : 0 < tl
          · have d1 : decide (0 < tl) = true := by simpa using h1
            by_cases h2 : tl < 4 * (lv : Int)
            · have d2 : decide (tl < 4 * (lv : Int)) = true := by simpa using h2
              have hw4 : IntKind.i64.wrap (4 * (lv : Int)) = 4 * (lv : Int) := by simp [IntKind.wrap, IntKind.bits, IntKind.signed]; omega
              have hw5 : IntKind.i64.wrap ((p : Int) + 1) = (p : Int) + 1 := by simp [IntKind.wrap, IntKind.bits, IntKind.signed]; omega
              have hl4 : tl < 4 * (lv : Int) := h2
              have hfld := field_len ub ul ud
              have hLZ : LZ = decide (tl < ul) := by rw [HLZ.out, Bool.eq_iff_iff, decide_eq_true_eq, decide_eq_true_eq]; exact ⟨fun h => h.2.2, fun h => ⟨h1, h2, h⟩⟩
              generalize World.alloc w1 _ = W2 at *
              go_region_held (fun w' => w'.cell? ⟨w1.heap.size, 1, none⟩ = some (.int .i64 tl)) (first | exact c1 | assumption)
                (first | (go_at_call 48; refine (HLG2.out _ HR2.out.2.1 HR2.out.2.2.size).mono ?_; rintro e w7 ⟨rfl, ⟨n7, hn7, hF7⟩, hB7, hK7⟩; have hs7 : w7.cell? ⟨w1.heap.size, 1, none⟩ = some (.int .i64 tl) := (tok_cell (hK7.2 _ _ _ HG2.out)).2.1))
              go_wp2
              go_meet
              exact ⟨by rw [hLZ], hK7.2 _ _ _ HG2.out, n7, hn7, HR2.out.step hF7 hB7 hK7⟩
            · have d2 : decide (tl < 4 * (lv : Int)) = false := by simpa using h2
              have hl0 : LZ = false := by rw [HLZ.out]; exact decide_eq_false (fun h => h2 h.2.1)
              generalize World.alloc w1 _ = W2 at *
              go_quiet (fail)
              go_wp2
              go_meet
              exact ⟨by rw [hl0], HG2.out, n1, by omega, HR2.out.drewN _⟩
          · have d1 : decide (0 < tl) = false := by simpa using h1
            have hl0 : LZ = false := by rw [HLZ.out]; exact decide_eq_false (fun h => h1 h.1)
            generalize World.alloc w1 _ = W2 at *
            go_quiet (fail)
            go_wp2
            go_meet
            exact ⟨by rw [hl0], HG2.out, n1, by omega, HR2.out.drewN _⟩
        case rest =>
          obtain ⟨rfl, hG3, n2, hn2, hR3⟩ := hcut
          clear HR2 HG2 HLG2
          obtain ⟨x0, x1, x2, f0, f1, f2⟩ := tok_cell hG3
          have hBg : w.heap.size ≤ w1.heap.size := hsz1
          cases hL : LZ
          · rw [hL] at HSB HSR
            by_cases ht0 : tl = 0
            · have hTz := HGZ.out ht0
              simp only [zeroT, Tok.mk.injEq] at hTz
              obtain ⟨rfl, _, rfl⟩ := hTz
              subst ht0
              have HSE : Hid (stepT s lv p = ⟨byt s p, 0, 0⟩) := HSB.out (.inr rfl)
              have HGT : Hid ((wc.setCell ⟨w1.heap.size, 0, none⟩ (.int .u8 (byt s p : Int))).heap[w1.heap.size]? = some (.cells #[.int .u8 (byt s p : Int), .int .i64 0, .int .i64 0] 57 (0, 0))) := put1_heap hG3 _
              have HRT : Hid (RepAt w (wc.setCell ⟨w1.heap.size, 0, none⟩ (.int .u8 (byt s p : Int))) w.heap.size (w.heap.size + 1) w.heap.size s (2 ^ lv) n2 u6 acc) := hR3.put hG3 HNE.out hBg (grown_setCell _ ⟨w1.heap.size, 0, none⟩ _)
              clear hR3 hG3 HSB HSR HLZ HGZ
              go_upto_region 10 with fail
              generalize World.setCell wc _ _ = W at *
              clear x0 x1 x2 f0 f1 f2
              obtain ⟨y0, y1, y2, _, _, _⟩ := tok_cell HGT.out
              have h3n := three_new W ⟨byt s p, 0, 0⟩
              simp only at h3n
              have HN3 : Hid (∀ (j : Nat) (u : Value), [Value.int .u8 ((byt s p : Nat) : Int), .int .i64 0, .int .i64 0][j]? = some u → (W.alloc (.cells #[.int .u8 ((byt s p : Nat) : Int), .int .i64 0, .int .i64 0] 57)).cell? ((⟨W.heap.size, 0, none⟩ : Addr).add j) = some u) := h3n
              have HWD : Hid (∀ W', Calls Try.prog 39 #[.agg #[.int .u8 ((byt s p : Nat) : Int), .int .i64 0, .int .i64 0]] W' fun e w' => e = .returned (.int .i64 (wid ⟨byt s p, 0, 0⟩)) ∧ Below W'.heap.size W' w') := fun W' => width_any ⟨byt s p, 0, 0⟩ W'
              clear h3n
              have HONE : Hid (∀ u ∈ [Value.int .u8 ((byt s p : Nat) : Int), .int .i64 0, .int .i64 0], u.oneCell' = true) := three_one _ _ _
              have hszW : w.heap.size ≤ W.heap.size := HRT.out.2.2.size
              have hgtW : w1.heap.size < W.heap.size := (Array.getElem?_eq_some_iff.1 HGT.out).1
              have hwp := wid_pos ⟨byt s p, 0, 0⟩
              have HWS : Hid ((p : Int) + wid ⟨byt s p, 0, 0⟩ ≤ s.size) := by unfold Hid; rw [← HSE.out]; exact HOK.out.2.2.1
              have hws := HWS.out
              generalize hwt : wid ⟨byt s p, 0, 0⟩ = wt at *
              go_wp2_with (at_builtin; refine wpList_append_own _ rfl _ _ 51 rfl w.heap.size 57 i0 (.agg #[.int .u8 0, .int .i64 0, .int .i64 0]) 3 24 Try.underlying51 hi hz0 hz1 hz2 rfl (by decide) _ _ _ rfl (HRT.out.1.alloc _) ⟨W.heap.size, 0, none⟩ 1 1 [.int .u8 ((byt s p : Nat) : Int), .int .i64 0, .int .i64 0] rfl rfl HN3.out HONE.out (by unfold maxLen; omega) (by omega) (by simp; omega) ?_)
              intro v8 w8 hown8 hg8 _
              have hO8 : w8.ownsRow w.heap.size 57 3 v8 (acc ++ [(⟨byt s p, 0, 0⟩ : Tok)]).length (tcs (acc ++ [(⟨byt s p, 0, 0⟩ : Tok)])) := by rw [tcs_snoc, List.length_append]; exact hown8
              have HR8 : Hid (RepAt w w8 w.heap.size (w.heap.size + 1) w.heap.size s (2 ^ lv) n2 v8 (acc ++ [(⟨byt s p, 0, 0⟩ : Tok)])) := HRT.out.app hszW hg8 hO8
              have hG8 := grown_block hg8 ((heap_alloc_old _ _ hgtW).trans HGT.out) (fun e => HNE.out e.symm)
              obtain ⟨z0, z1, z2, _, _, _⟩ := tok_cell hG8
              clear hown8 hg8 hO8 hG8 y0 y1 y2 HN3 HGT HRT
              go_wp2_with fail
              refine (HWD.out _).mono ?_
              rintro e w9 ⟨rfl, hb9⟩
              have HR9 : Hid (RepAt w w9 w.heap.size (w.heap.size + 1) w.heap.size s (2 ^ lv) n2 v8 (acc ++ [(⟨byt s p, 0, 0⟩ : Tok)])) := HR8.out.step (HR8.out.2.1.below hb9) (hb9.mono HR8.out.2.2.size) (keptT_below hb9)
              clear hb9 z0 z1 z2 HR8
              go_wp2
              go_roundw
              case rel => exact ⟨k + 1, n2, by rw [HST.out, HSE.out, hwt]; go_num, by rw [HST.out, HSE.out, hwt]; simp only; omega, by rw [HST.out, HSE.out]; exact HR9.out⟩
              case measure => simp [intOf]; omega
            · have HSE : Hid (stepT s lv p = ⟨tb, tl, td⟩) := HSR.out rfl ht0
              have HGT : Hid (wc.heap[w1.heap.size]? = some (.cells #[.int .u8 (tb : Int), .int .i64 tl, .int .i64 td] 57 (0, 0))) := hG3
              have HRT : Hid (RepAt w wc w.heap.size (w.heap.size + 1) w.heap.size s (2 ^ lv) n2 u6 acc) := hR3
              have ht0i : (tl == 0) = false := by simpa using ht0
              clear hR3 hG3 HSB HSR HLZ HGZ
              go_upto_region 10 with fail
              generalize wc = W at *
              clear x0 x1 x2 f0 f1 f2
              obtain ⟨y0, y1, y2, _, _, _⟩ := tok_cell HGT.out
              have h3n := three_new W ⟨tb, tl, td⟩
              simp only at h3n
              have HN3 : Hid (∀ (j : Nat) (u : Value), [Value.int .u8 ((tb : Nat) : Int), .int .i64 tl, .int .i64 td][j]? = some u → (W.alloc (.cells #[.int .u8 ((tb : Nat) : Int), .int .i64 tl, .int .i64 td] 57)).cell? ((⟨W.heap.size, 0, none⟩ : Addr).add j) = some u) := h3n
              have HWD : Hid (∀ W', Calls Try.prog 39 #[.agg #[.int .u8 ((tb : Nat) : Int), .int .i64 tl, .int .i64 td]] W' fun e w' => e = .returned (.int .i64 (wid ⟨tb, tl, td⟩)) ∧ Below W'.heap.size W' w') := fun W' => width_any ⟨tb, tl, td⟩ W'
              clear h3n
              have HONE : Hid (∀ u ∈ [Value.int .u8 ((tb : Nat) : Int), .int .i64 tl, .int .i64 td], u.oneCell' = true) := three_one _ _ _
              have hszW : w.heap.size ≤ W.heap.size := HRT.out.2.2.size
              have hgtW : w1.heap.size < W.heap.size := (Array.getElem?_eq_some_iff.1 HGT.out).1
              have hwp := wid_pos ⟨tb, tl, td⟩
              have HWS : Hid ((p : Int) + wid ⟨tb, tl, td⟩ ≤ s.size) := by unfold Hid; rw [← HSE.out]; exact HOK.out.2.2.1
              have hws := HWS.out
              generalize hwt : wid ⟨tb, tl, td⟩ = wt at *
              go_wp2_with (at_builtin; refine wpList_append_own _ rfl _ _ 51 rfl w.heap.size 57 i0 (.agg #[.int .u8 0, .int .i64 0, .int .i64 0]) 3 24 Try.underlying51 hi hz0 hz1 hz2 rfl (by decide) _ _ _ rfl (HRT.out.1.alloc _) ⟨W.heap.size, 0, none⟩ 1 1 [.int .u8 ((tb : Nat) : Int), .int .i64 tl, .int .i64 td] rfl rfl HN3.out HONE.out (by unfold maxLen; omega) (by omega) (by simp; omega) ?_)
              intro v8 w8 hown8 hg8 _
              have hO8 : w8.ownsRow w.heap.size 57 3 v8 (acc ++ [(⟨tb, tl, td⟩ : Tok)]).length (tcs (acc ++ [(⟨tb, tl, td⟩ : Tok)])) := by rw [tcs_snoc, List.length_append]; exact hown8
              have HR8 : Hid (RepAt w w8 w.heap.size (w.heap.size + 1) w.heap.size s (2 ^ lv) n2 v8 (acc ++ [(⟨tb, tl, td⟩ : Tok)])) := HRT.out.app hszW hg8 hO8
              have hG8 := grown_block hg8 ((heap_alloc_old _ _ hgtW).trans HGT.out) (fun e => HNE.out e.symm)
              obtain ⟨z0, z1, z2, _, _, _⟩ := tok_cell hG8
              clear hown8 hg8 hO8 hG8 y0 y1 y2 HN3 HGT HRT
              go_wp2_with fail
              refine (HWD.out _).mono ?_
              rintro e w9 ⟨rfl, hb9⟩
              have HR9 : Hid (RepAt w w9 w.heap.size (w.heap.size + 1) w.heap.size s (2 ^ lv) n2 v8 (acc ++ [(⟨tb, tl, td⟩ : Tok)])) := HR8.out.step (HR8.out.2.1.below hb9) (hb9.mono HR8.out.2.2.size) (keptT_below hb9)
              clear hb9 z0 z1 z2 HR8
              go_wp2
              go_roundw
              case rel => exact ⟨k + 1, n2, by rw [HST.out, HSE.out, hwt]; go_num, by rw [HST.out, HSE.out, hwt]; simp only; omega, by rw [HST.out, HSE.out]; exact HR9.out⟩
              case measure => simp [intOf]; omega
          · rw [hL] at HSB HSR
            have HSE : Hid (stepT s lv p = ⟨byt s p, 0, 0⟩) := HSB.out (.inl rfl)
            have hGz := put3_heap hG3 zeroT
            have HGT : Hid (((put3 wc w1.heap.size zeroT).setCell ⟨w1.heap.size, 0, none⟩ (.int .u8 (byt s p : Int))).heap[w1.heap.size]? = some (.cells #[.int .u8 (byt s p : Int), .int .i64 0, .int .i64 0] 57 (0, 0))) := put1_heap hGz _
            have HRT : Hid (RepAt w ((put3 wc w1.heap.size zeroT).setCell ⟨w1.heap.size, 0, none⟩ (.int .u8 (byt s p : Int))) w.heap.size (w.heap.size + 1) w.heap.size s (2 ^ lv) n2 u6 acc) := (hR3.put hG3 HNE.out hBg (put3_grown _ _ _)).put hGz HNE.out hBg (grown_setCell _ ⟨w1.heap.size, 0, none⟩ _)
            have hpz : put3 wc w1.heap.size zeroT = ((wc.setCell ⟨w1.heap.size, 0, none⟩ (.int .u8 0)).setCell ⟨w1.heap.size, 1, none⟩ (.int .i64 0)).setCell ⟨w1.heap.size, 2, none⟩ (.int .i64 0) := rfl
            rw [hpz] at HGT HRT
            clear hR3 hG3 HSB HSR HLZ HGZ hGz hpz
            go_upto_region 10 with fail
            generalize World.setCell (World.setCell (World.setCell (World.setCell wc _ _) _ _) _ _) _ _ = W at *
            clear x0 x1 x2 f0 f1 f2
            obtain ⟨y0, y1, y2, _, _, _⟩ := tok_cell HGT.out
            have h3n := three_new W ⟨byt s p, 0, 0⟩
            simp only at h3n
            have HN3 : Hid (∀ (j : Nat) (u : Value), [Value.int .u8 ((byt s p : Nat) : Int), .int .i64 0, .int .i64 0][j]? = some u → (W.alloc (.cells #[.int .u8 ((byt s p : Nat) : Int), .int .i64 0, .int .i64 0] 57)).cell? ((⟨W.heap.size, 0, none⟩ : Addr).add j) = some u) := h3n
            have HWD : Hid (∀ W', Calls Try.prog 39 #[.agg #[.int .u8 ((byt s p : Nat) : Int), .int .i64 0, .int .i64 0]] W' fun e w' => e = .returned (.int .i64 (wid ⟨byt s p, 0, 0⟩)) ∧ Below W'.heap.size W' w') := fun W' => width_any ⟨byt s p, 0, 0⟩ W'
            clear h3n
            have HONE : Hid (∀ u ∈ [Value.int .u8 ((byt s p : Nat) : Int), .int .i64 0, .int .i64 0], u.oneCell' = true) := three_one _ _ _
            have hszW : w.heap.size ≤ W.heap.size := HRT.out.2.2.size
            have hgtW : w1.heap.size < W.heap.size := (Array.getElem?_eq_some_iff.1 HGT.out).1
            have hwp := wid_pos ⟨byt s p, 0, 0⟩
            have HWS : Hid ((p : Int) + wid ⟨byt s p, 0, 0⟩ ≤ s.size) := by unfold Hid; rw [← HSE.out]; exact HOK.out.2.2.1
            have hws := HWS.out
            generalize hwt : wid ⟨byt s p, 0, 0⟩ = wt at *
            go_wp2_with (at_builtin; refine wpList_append_own _ rfl _ _ 51 rfl w.heap.size 57 i0 (.agg #[.int .u8 0, .int .i64 0, .int .i64 0]) 3 24 Try.underlying51 hi hz0 hz1 hz2 rfl (by decide) _ _ _ rfl (HRT.out.1.alloc _) ⟨W.heap.size, 0, none⟩ 1 1 [.int .u8 ((byt s p : Nat) : Int), .int .i64 0, .int .i64 0] rfl rfl HN3.out HONE.out (by unfold maxLen; omega) (by omega) (by simp; omega) ?_)
            intro v8 w8 hown8 hg8 _
            have hO8 : w8.ownsRow w.heap.size 57 3 v8 (acc ++ [(⟨byt s p, 0, 0⟩ : Tok)]).length (tcs (acc ++ [(⟨byt s p, 0, 0⟩ : Tok)])) := by rw [tcs_snoc, List.length_append]; exact hown8
            have HR8 : Hid (RepAt w w8 w.heap.size (w.heap.size + 1) w.heap.size s (2 ^ lv) n2 v8 (acc ++ [(⟨byt s p, 0, 0⟩ : Tok)])) := HRT.out.app hszW hg8 hO8
            have hG8 := grown_block hg8 ((heap_alloc_old _ _ hgtW).trans HGT.out) (fun e => HNE.out e.symm)
            obtain ⟨z0, z1, z2, _, _, _⟩ := tok_cell hG8
            clear hown8 hg8 hO8 hG8 y0 y1 y2 HN3 HGT HRT
            go_wp2_with fail
            refine (HWD.out _).mono ?_
            rintro e w9 ⟨rfl, hb9⟩
            have HR9 : Hid (RepAt w w9 w.heap.size (w.heap.size + 1) w.heap.size s (2 ^ lv) n2 v8 (acc ++ [(⟨byt s p, 0, 0⟩ : Tok)])) := HR8.out.step (HR8.out.2.1.below hb9) (hb9.mono HR8.out.2.2.size) (keptT_below hb9)
            clear hb9 z0 z1 z2 HR8
            go_wp2
            go_roundw
            case rel => exact ⟨k + 1, n2, by rw [HST.out, HSE.out, hwt]; go_num, by rw [HST.out, HSE.out, hwt]; simp only; omega, by rw [HST.out, HSE.out]; exact HR9.out⟩
            case measure => simp [intOf]; omega
      · have HE : Hid (tokK s lv k = tokK s lv s.size) := tokK_end (by omega)
        have hR' := hR
        rw [HE.out] at hR'
        have hpi : ¬ ((tokK s lv k).2 : Int) < (s.size : Int) := by omega
        have HTR : Hid (TR wr _ (tokK s lv s.size).1) := TR.own hR'.1
        have HB : Hid (Below w.heap.size w wr) := hR.2.2
        clear hR hR' hfar hn
        go_wp2
        go_ret
        exact ⟨_, rfl, HTR.out, HB.out⟩
end Go.Proofs.Ytibnkpfginffhac
