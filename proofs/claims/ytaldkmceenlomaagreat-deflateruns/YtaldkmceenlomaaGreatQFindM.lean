/- A token in memory, written over another. A run of equal bytes needs few tokens: the plain mathematics. A match.finder as it lies in memory, and the contract of its method alike. -/
import Derived.Test.YtaldkmceenlomaaGreatQMatchX
import Derived.Test.YtaldkmceenlomaaGreatQPutA
import Derived.Maps.OwnSet
import Derived.Maps.OwnOps
import Derived.Deep.QuietTactic
import Derived.BigQuiet
namespace Go.Proofs.YtaldkmceenlomaaGreat
open Go.RowKit
set_option linter.unusedVariables false

theorem grown_setCell (w : World) (a : Addr) (v : Value) : w.grownBy (w.setCell a v) (some a.block) := by
  refine ⟨rfl, rfl, rfl, by simp, fun k hk hne => ?_⟩
  rw [RowKit.Below.heap_setCell _ _ _ _ (fun e => hne (by rw [e]))]
/-- A token written over another. -/
def put3 (w : World) (b : Nat) (t : Tok) : World := ((w.setCell ⟨b, 0, none⟩ (.int .u8 (t.b : Int))).setCell ⟨b, 1, none⟩ (.int .i64 t.l)).setCell ⟨b, 2, none⟩ (.int .i64 t.d)
theorem put3_heap {w : World} {b : Nat} {x y z : Value} {ty : TypeId} (h : w.heap[b]? = some (.cells #[x, y, z] ty (0, 0))) (t : Tok) : (put3 w b t).heap[b]? = some (.cells #[.int .u8 (t.b : Int), .int .i64 t.l, .int .i64 t.d] ty (0, 0)) := by
  unfold put3
  rw [heap_setCell_same _ _ _ _ _ _ (heap_setCell_same _ _ _ _ _ _ (heap_setCell_same _ _ _ _ _ _ h))]; rfl
theorem grown_trans {a b c : World} {r : Option Nat} (h : a.grownBy b r) (k : b.grownBy c r) : a.grownBy c r :=
  ⟨k.os.trans h.os, k.tape.trans h.tape, k.output.trans h.output, Nat.le_trans h.size k.size, fun i hi hne => (k.block i (Nat.lt_of_lt_of_le hi h.size) hne).trans (h.block i hi hne)⟩
theorem put3_grown (w : World) (b : Nat) (t : Tok) : w.grownBy (put3 w b t) (some b) :=
  grown_trans (grown_trans (grown_setCell w ⟨b, 0, none⟩ _) (grown_setCell _ ⟨b, 1, none⟩ _)) (grown_setCell _ ⟨b, 2, none⟩ _)
theorem tok_cell {w : World} {b : Nat} {x y z : Value} {ty : TypeId} (h : w.heap[b]? = some (.cells #[x, y, z] ty (0, 0))) : w.cell? ⟨b, 0, none⟩ = some x ∧ w.cell? ⟨b, 1, none⟩ = some y ∧ w.cell? ⟨b, 2, none⟩ = some z ∧ w.frozen? ⟨b, 0, none⟩ = false ∧ w.frozen? ⟨b, 1, none⟩ = false ∧ w.frozen? ⟨b, 2, none⟩ = false := by
  refine ⟨?_, ?_, ?_, frozen_of_row _ _ _ _ _ h, frozen_of_row _ _ _ _ _ h, frozen_of_row _ _ _ _ _ h⟩ <;> (rw [cell_of_row _ _ _ _ _ _ h]; rfl)
end Go.Proofs.YtaldkmceenlomaaGreat
namespace Go.Proofs.YtaldkmceenlomaaGreat
open Go.RowKit
set_option linter.unusedVariables false

/-- A text of n times the byte c. -/
def IsRun (s : ByteArray) (n c : Nat) : Prop := s.size = n ∧ ∀ k, k < n → byt s k = c
theorem run_key {s : ByteArray} {n c p q : Nat} (h : IsRun s n c) (hp : p + 3 ≤ n) (hq : q + 3 ≤ n) : key3 s p = key3 s q := by
  apply ba_ext
  unfold key3
  rw [extract_data, extract_data]
  apply List.ext_getElem?
  intro i
  rw [List.getElem?_take, List.getElem?_take]
  by_cases hi : i < 3
  · rw [if_pos (by omega), if_pos (by omega), List.getElem?_drop, List.getElem?_drop]
    have hs := h.1
    have e1 := h.2 (p + i) (by omega)
    have e2 := h.2 (q + i) (by omega)
    unfold byt at e1 e2
    rw [List.getD_eq_getElem?_getD, List.getElem?_eq_getElem (by rw [size_toList]; omega)] at e1 e2
    simp only [Option.getD_some] at e1 e2
    rw [List.getElem?_eq_getElem (by rw [size_toList]; omega), List.getElem?_eq_getElem (by rw [size_toList]; omega)]
    congr 1
    apply UInt8.toNat_inj.1
    rw [e1, e2]
  · rw [if_neg (by omega), if_neg (by omega)]
theorem run_prev {s : ByteArray} {n c at_ : Nat} (h : IsRun s n c) (h1 : 1 ≤ at_) (ha : at_ + 3 ≤ n) : prevP s at_ = at_ := by
  unfold prevP
  obtain ⟨k, rfl⟩ : ∃ k, at_ = k + 1 := ⟨at_ - 1, by omega⟩
  rw [lastP, if_pos (run_key h (by omega) ha)]
theorem run_alike {s : ByteArray} {n c : Nat} (h : IsRun s n c) (a b f : Nat) (ha : a + f ≤ n) (hb : b + f ≤ n) : alikeF s a b f = f := by
  have h1 := alikeF_le s f a b
  have h2 := alikeF_ge s f a b f (Nat.le_refl _) (fun i hi => by rw [h.2 _ (by omega), h.2 _ (by omega)])
  omega
theorem run_long {s : ByteArray} {n c at_ f : Nat} (h : IsRun s n c) (h1 : 1 ≤ at_) (ha : at_ + 3 ≤ n) (hf : 2 ≤ f) : longF s f at_ = ⟨0, ((min 258 (n - at_) : Nat) : Int), 1⟩ := by
  unfold longF
  rw [h.1, if_neg (by omega), run_prev h h1 ha]
  obtain ⟨k, rfl⟩ : ∃ k, f = k + 1 + 1 := ⟨f - 2, by omega⟩
  have e := run_alike h (at_ - 1) at_ (min 258 (n - at_)) (by omega) (by omega)
  rw [chainF, e, if_neg (fun hh => by rcases hh with hh | hh; · omega
                                      · simp only [zeroT] at hh; omega), if_neg (by omega), if_pos (by simp only [zeroT]; omega), chainF, if_pos (.inr (Int.le_refl _))]
  congr 1
  omega
theorem long_le (s : ByteArray) (f at_ : Nat) : (longF s f at_).l ≤ ((min 258 (s.size - at_) : Nat) : Int) := by
  rcases longF_good s f at_ with h | h
  · rw [h]; simp only [zeroT]; omega
  · omega
theorem run_step {s : ByteArray} {n c at_ lv : Nat} (h : IsRun s n c) (hl : 1 ≤ lv) (h1 : 1 ≤ at_) (ha : at_ + 3 ≤ n) : wid (stepT s lv at_) = ((min 258 (n - at_) : Nat) : Int) := by
  have hp : 2 ^ 1 ≤ 2 ^ lv := Nat.pow_le_pow_right (by decide) hl
  have e := run_long h h1 ha (f := 2 ^ lv) (by omega)
  have l2 := long_le s (2 ^ lv) (at_ + 1)
  rw [h.1] at l2
  unfold stepT
  rw [e, if_pos ⟨by simp only; omega, fun hh => by simp only at hh; omega⟩]
  unfold wid
  simp only
  rw [if_pos (by omega)]
theorem run_byte {s : ByteArray} {n c at_ lv : Nat} (h : IsRun s n c) (ha : at_ = 0 ∨ n < at_ + 3) : wid (stepT s lv at_) = 1 := by
  have e : longF s (2 ^ lv) at_ = zeroT := by
    unfold longF
    rw [h.1]
    rcases ha with rfl | ha
    · split
      · rfl
      · have hp := Nat.two_pow_pos lv
        obtain ⟨k, hk⟩ : ∃ k, 2 ^ lv = k + 1 := ⟨2 ^ lv - 1, by omega⟩
        rw [hk, chainF, if_pos (.inl rfl)]
    · rw [if_pos ha]
  unfold stepT
  rw [e, if_neg (fun hh => by simp [zeroT] at hh)]
  rfl
/-- How many tokens there are behind each step. -/
def RunAt (n at_ len : Nat) : Prop := (at_ = 0 ∧ len = 0) ∨ ∃ j e, len = 1 + j + e ∧ 1 + 258 * j ≤ n ∧ at_ ≤ n ∧ ((e = 0 ∧ at_ = 1 + 258 * j) ∨ (1 ≤ e ∧ at_ = n ∧ e ≤ 2) ∨ (e = 1 ∧ at_ = 2 + 258 * j ∧ n = 3 + 258 * j))
set_option maxRecDepth 10000 in
theorem run_count {s : ByteArray} {n c lv : Nat} (h : IsRun s n c) (hl : 1 ≤ lv) : ∀ k, RunAt n (tokK s lv k).2 (tokK s lv k).1.length
  | 0 => .inl ⟨rfl, rfl⟩
  | k + 1 => by
    have ih := run_count h hl k
    by_cases hlt : (tokK s lv k).2 < s.size
    · rw [tokK_step hlt]
      have hs := h.1
      simp only [List.length_append, List.length_singleton]
      generalize (tokK s lv k).2 = p at *
      generalize (tokK s lv k).1.length = m at *
      by_cases hb : p = 0 ∨ n < p + 3
      · rw [run_byte h hb]
        rcases ih with ⟨rfl, rfl⟩ | ⟨j, e, h1, h2, h3, h4⟩
        · exact .inr ⟨0, 0, by omega, by omega, by simp only [Int.toNat_one]; omega, .inl ⟨rfl, by simp⟩⟩
        · refine .inr ⟨j, e + 1, by omega, h2, by simp only [Int.toNat_one]; omega, ?_⟩
          simp only [Int.toNat_one]
          omega
      · rw [run_step h hl (by omega) (by omega), Int.toNat_natCast]
        rcases ih with ⟨rfl, rfl⟩ | ⟨j, e, h1, h2, h3, h4⟩
        · omega
        · obtain ⟨rfl, rfl⟩ : e = 0 ∧ p = 1 + 258 * j := by omega
          by_cases hbig : 258 ≤ n - (1 + 258 * j)
          · rw [Nat.min_eq_left hbig]
            right
            refine ⟨j + 1, 0, ?_, ?_, ?_, ?_⟩
            · omega
            · omega
            · omega
            · left; constructor
              · rfl
              · omega
          · rw [Nat.min_eq_right (by omega)]
            right
            refine ⟨j, 1, ?_, ?_, ?_, ?_⟩
            · omega
            · omega
            · omega
            · right; left; omega
    · rw [tokK, if_neg hlt]; exact ih
theorem run_few {s : ByteArray} {n c lv : Nat} (h : IsRun s n c) (hl : 1 ≤ lv) : (toks s lv).length ≤ 4 + n / 258 := by
  unfold toks
  rw [if_neg (by omega)]
  rcases run_count h hl s.size with ⟨_, h2⟩ | ⟨j, e, h1, h2, h3, h4⟩
  · omega
  · omega
end Go.Proofs.YtaldkmceenlomaaGreat
namespace Go.Proofs.YtaldkmceenlomaaGreat
open Go.RowKit Go.WideMaps Go.Maps
set_option linter.unusedVariables false

/-- Numbers as cells. -/
def zc (ns : List Nat) : List Value := ns.map fun n : Nat => Value.int .i64 (n : Int)
theorem zc_len (ns : List Nat) : (zc ns).length = ns.length := by simp [zc]
theorem zc_snoc (ns : List Nat) (n : Nat) : zc (ns ++ [n]) = zc ns ++ [.int .i64 (n : Int)] := by simp [zc]
/-- Of each place the one ahead of it where the same bytes begin. -/
def befs (s : ByteArray) (n : Nat) : List Nat := (List.range n).map (prevP s)
theorem befs_len (s : ByteArray) (n : Nat) : (befs s n).length = n := by simp [befs]
theorem befs_succ (s : ByteArray) (n : Nat) : befs s (n + 1) = befs s n ++ [prevP s n] := by unfold befs; rw [List.range_succ, List.map_append]; rfl
theorem befs_at (s : ByteArray) (n i : Nat) (h : i < n) : (zc (befs s n))[i]? = some (.int .i64 (prevP s i : Int)) := by
  unfold zc befs
  rw [List.getElem?_map, List.getElem?_map, List.getElem?_range h]; rfl
/-- What the map says of each three bytes. -/
def SeenD (D : DataW Unit) (s : ByteArray) (n : Nat) : Prop := ∀ key : ByteArray, D.atKey (.string key.data.toList) (.lit (.int .i64 0)) = .lit (.int .i64 (lastP s key n : Int))
theorem seen_start (s : ByteArray) : SeenD (.map []) s 0 := fun key => rfl
theorem seen_step {D : DataW Unit} {s : ByteArray} {n : Nat} (h : SeenD D s n) (hm : IsMap D) : SeenD (D.put (.string (key3 s n).data.toList) (.lit (.int .i64 ((n : Int) + 1)))) s (n + 1) := by
  intro key
  rw [lastP]
  by_cases e : key3 s n = key
  · rw [if_pos e, ← e, atKey_put_same hm (show WideAt.IsKeyLit (.string _) from trivial)]; rfl
  · rw [if_neg e, atKey_put_other (fun hh => e (ba_ext (by simpa using hh)).symm)]
    exact h key
theorem Tryz.infoIm : (Tryz.prog.info? 3).map (fun i => (i.zero, i.size, i.bytes)) = some (some (.int .i64 0), 1, 8) := by kernel_rfl
theorem strLaw : Keyed Tryz.prog 9 := string_keyed Tryz.underlying9
theorem zeroI (w : World) : (zeroValue 3).run Tryz.prog w = .ok (.int .i64 0) w := by kernel_rfl
/-- The finder in block gf, its map in block gm: n places of s have been seen. -/
def FinderAt (w : World) (B gf gm : Nat) (s : ByteArray) (tr n : Nat) : Prop := B ≤ gf ∧ B ≤ gm ∧ ∃ bv D, w.heap[gf]? = some (.cells #[.string s, .int .i64 (tr : Int), .map (some gm), bv] 117 (0, 0)) ∧
  w.ownsMap Tryz.prog 9 (plainElem Tryz.prog 3) gm n D ∧ SeenD D s n ∧ w.ownsRow B 3 1 bv n (zc (befs s n))
theorem FinderAt.below {w w' : World} {B gf gm : Nat} {s : ByteArray} {tr n : Nat} (h : FinderAt w B gf gm s tr n) (hb : Below w.heap.size w w') : FinderAt w' B gf gm s tr n := by
  obtain ⟨h1, h2, bv, D, h3, h4, h5, h6⟩ := h
  exact ⟨h1, h2, bv, D, (hb.block gf (Array.getElem?_eq_some_iff.1 h3).1).trans h3, h4.kept (row := none) ⟨hb.os, hb.tape, hb.output, hb.size, fun k hk _ => hb.block k hk⟩ (by simp), h5, own_below h6 hb⟩
theorem FinderAt.drewN {w : World} {B gf gm : Nat} {s : ByteArray} {tr n : Nat} (h : FinderAt w B gf gm s tr n) (m : Nat) : FinderAt (w.drewN m) B gf gm s tr n := h
theorem FinderAt.lt {w : World} {B gf gm : Nat} {s : ByteArray} {tr n : Nat} (h : FinderAt w B gf gm s tr n) : B ≤ gf ∧ gf < w.heap.size := by
  obtain ⟨h1, h2, bv, D, h3, _⟩ := h
  exact ⟨h1, (Array.getElem?_eq_some_iff.1 h3).1⟩
theorem FinderAt.cells {w : World} {B gf gm : Nat} {s : ByteArray} {tr n : Nat} (h : FinderAt w B gf gm s tr n) : w.cell? ⟨gf, 0, none⟩ = some (.string s) ∧ w.cell? ⟨gf, 1, none⟩ = some (.int .i64 (tr : Int)) ∧ w.cell? ⟨gf, 2, none⟩ = some (.map (some gm)) := by
  obtain ⟨h1, h2, bv, D, h3, _⟩ := h
  refine ⟨?_, ?_, ?_⟩ <;> (rw [cell_of_row _ _ _ _ _ _ h3]; rfl)
/-- Tokens that lie in memory stay. -/
def KeptT (w w' : World) : Prop := w.heap.size ≤ w'.heap.size ∧ ∀ (b : Nat) (c : Array Value) (p : Nat × Nat), w.heap[b]? = some (Obj.cells c 97 p) → w'.heap[b]? = some (Obj.cells c 97 p)
theorem KeptT.refl (w : World) : KeptT w w := ⟨Nat.le_refl _, fun _ _ _ h => h⟩
theorem KeptT.trans {a b c : World} (h : KeptT a b) (k : KeptT b c) : KeptT a c := ⟨Nat.le_trans h.1 k.1, fun i x p hi => k.2 i x p (h.2 i x p hi)⟩
theorem keptT_below {w w' : World} (hb : Below w.heap.size w w') : KeptT w w' := ⟨hb.size, fun i x p hi => (hb.block i (Array.getElem?_eq_some_iff.1 hi).1).trans hi⟩
theorem keptT_alloc (w : World) (o : Obj) : KeptT w (w.alloc o) := keptT_below ((Below.refl _ w).alloc (Nat.le_refl _) o)
theorem keptT_drewN (w : World) (n : Nat) : KeptT w (w.drewN n) := ⟨Nat.le_refl _, fun _ _ _ h => h⟩
theorem keptT_grown {w w' : World} {r : Option Nat} (hg : w.grownBy w' r) (hr : ∀ b, r = some b → ∀ (c : Array Value) (p : Nat × Nat), w.heap[b]? ≠ some (Obj.cells c 97 p)) : KeptT w w' :=
  ⟨hg.size, fun b c p hb => grown_block hg hb (fun e => hr b e.symm c p hb)⟩
theorem own_notTok {w : World} {B n : Nat} {ty : TypeId} {sz : Nat} {v : Value} {xs : List Value} (hO : w.ownsRow B ty sz v n xs) (hty : ty ≠ 97) : ∀ b, v.ownBlock = some b → ∀ (c : Array Value) (p : Nat × Nat), w.heap[b]? ≠ some (Obj.cells c 97 p) := by
  intro b hb c p hc
  exact own_ne hO hc (fun e => hty e.symm) hb.symm
theorem byt_int {s : ByteArray} {a b : Nat} : ((byt s a : Int) == (byt s b : Int)) = decide (byt s a = byt s b) := by
  rw [Bool.eq_iff_iff]; simp; omega
set_option maxRecDepth 100000 in
set_option maxHeartbeats 1000000 in
theorem alike_any (gf : Nat) (s : ByteArray) (a b top : Nat) (w : World) (hc : w.cell? ⟨gf, 0, none⟩ = some (.string s)) (ha : a + top ≤ s.size) (hb : b + top ≤ s.size) (hs : s.size ≤ 100000000) :
    Calls Tryz.prog 77 #[.pointer (some ⟨gf, 0, none⟩), .int .i64 (a : Int), .int .i64 (b : Int), .int .i64 (top : Int)] w fun e w' => e = .returned (.int .i64 (alikeF s a b top : Int)) ∧ ∃ n, w' = w.drewN n := by
  go_enter Tryz.func77, Tryz.ntmps77
  go_wp2
  go_loopw [9] (fun i wr => ∃ n : Nat, i = .int .i64 (n : Int) ∧ AlikeAt s a b top n ∧ ∃ m, wr = w.drewN m) (fun i _ => top - (intOf i).toNat)
  case atStart => exact ⟨0, rfl, alikeAt_start _ _ _ _, 0, rfl⟩
  case round =>
    obtain ⟨n, rfl, hA, m, rfl⟩ := hrel
    have hn1 := hA.1
    have HA : Hid (AlikeAt s a b top n) := hA
    clear hA
    have hcm : (w.drewN m).cell? ⟨gf, 0, none⟩ = some (.string s) := hc
    by_cases hlt : n < top
    · have hg : decide ((n : Int) < (top : Int)) = true := by simpa using hlt
      have i1 : (0 : Int) ≤ (a : Int) + (n : Int) := by omega
      have i2 : (a : Int) + (n : Int) < (s.size : Int) := by omega
      have i3 : (0 : Int) ≤ (b : Int) + (n : Int) := by omega
      have i4 : (b : Int) + (n : Int) < (s.size : Int) := by omega
      have hl1 : a + n < s.size := by omega
      have hl2 : b + n < s.size := by omega
      have e1 := byt_eq s (a + n) hl1
      have e2 := byt_eq s (b + n) hl2
      by_cases he : byt s (a + n) = byt s (b + n)
      · have hq : ((s[a + n].toNat : Int) == (s[b + n].toNat : Int)) = true := by rw [e1, e2, byt_int]; simpa using he
        have HN : Hid (AlikeAt s a b top (n + 1)) := alikeAt_step HA.out hlt he
        clear e1 e2 he
        go_wp2
        go_quiet (fail)
        go_wp2
        go_roundw
        case rel => exact ⟨n + 1, by go_num, HN.out, m + nq, rfl⟩
        case measure => simp [intOf]; omega
      · have hq : ((s[a + n].toNat : Int) == (s[b + n].toNat : Int)) = false := by rw [e1, e2, byt_int]; simpa using he
        have HN : Hid (alikeF s a b top = n) := alikeAt_end HA.out (.inr he)
        clear e1 e2 he
        go_wp2
        go_quiet (fail)
        go_wp2
        go_ret
        exact ⟨by rw [HN.out]; rfl, m + nq, by simp⟩
    · have hg : decide ((n : Int) < (top : Int)) = false := by simp; omega
      have HN : Hid (alikeF s a b top = n) := alikeAt_end HA.out (.inl (by omega))
      go_wp2
      go_quiet (fail)
      go_wp2
      go_ret
      exact ⟨by rw [HN.out]; rfl, m + nq, by simp⟩
end Go.Proofs.YtaldkmceenlomaaGreat
