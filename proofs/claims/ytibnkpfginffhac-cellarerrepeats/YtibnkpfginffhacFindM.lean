/- A match.finder as it lies in memory, and the contract of its method alike. -/
import Derived.Test.YtibnkpfginffhacMatchX
import Derived.Maps.OwnSet
import Derived.Maps.OwnOps
import Derived.Deep.QuietTactic
import Derived.BigQuiet
namespace Go.Proofs.Ytibnkpfginffhac
open Go.RowKit Go.WideMaps Go.Maps
set_option linter.unusedVariables false

/-- Numbers as cells. -/
def zc (ns : List Nat) : List Value := ns.map fun n : Nat => Value.int .i64 (n : Int)
theorem zc_len (ns : List Nat) : (zc ns).length = ns.length := by simp [zc]
theorem zc_snoc (ns : List Nat) (n : Nat) : zc (ns ++ [n]) = zc ns ++ [.int .i64 (n : Int)] := by simp [zc]
/-- Of each place the one ahead of it where the same bytes begin. -/
def befs (s : ByteArray) (n : Nat) : List Nat := (List.range n).map (prevP s)
theorem befs_len (s : ByteArray) (n : Nat) : (befs s n).length = n := by simp [befs]
theorem befs_succ (s : ByteArray) (n : Nat) : befs s (n + 1) = befs s n ++ [prevP s n] := by unfold befs; rw [List.range_succ, List.map_append]; rfl
theorem befs_at (s : ByteArray) (n i : Nat) (h : i < n) : (zc (befs s n))[i]? = some (.int .i64 (prevP s i : Int)) := by
  unfold zc befs
  rw [List.getElem?_map, List.getElem?_map, List.getElem?_range h]; rfl
/-- What the map says of each three bytes. -/
def SeenD (D : DataW Unit) (s : ByteArray) (n : Nat) : Prop := ∀ key : ByteArray, D.atKey (.string key.data.toList) (.lit (.int .i64 0)) = .lit (.int .i64 (lastP s key n : Int))
theorem seen_start (s : ByteArray) : SeenD (.map []) s 0 := fun key => rfl
theorem seen_step {D : DataW Unit} {s : ByteArray} {n : Nat} (h : SeenD D s n) (hm : IsMap D) : SeenD (D.put (.string (key3 s n).data.toList) (.lit (.int .i64 ((n : Int) + 1)))) s (n + 1) := by
  intro key
  rw [lastP]
  by_cases e : key3 s n = key
  · rw [if_pos e, ← e, atKey_put_same hm (show WideAt.IsKeyLit (.string _) from trivial)]; rfl
  · rw [if_neg e, atKey_put_other (fun hh => e (ba_ext (by simpa using hh)).symm)]
    exact h key
theorem Try.infoIm : (Try.prog.info? 3).map (fun i => (i.zero, i.size, i.bytes)) = some (some (.int .i64 0), 1, 8) := by kernel_rfl
theorem strLaw : Keyed Try.prog 9 := string_keyed Try.underlying9
theorem zeroI (w : World) : (zeroValue 3).run Try.prog w = .ok (.int .i64 0) w := by kernel_rfl
/-- The finder in block gf, its map in block gm: n places of s have been seen. -/
def FinderAt (w : World) (B gf gm : Nat) (s : ByteArray) (tr n : Nat) : Prop := B ≤ gf ∧ B ≤ gm ∧ ∃ bv D, w.heap[gf]? = some (.cells #[.string s, .int .i64 (tr : Int), .map (some gm), bv] 113 (0, 0)) ∧
  w.ownsMap Try.prog 9 (plainElem Try.prog 3) gm n D ∧ SeenD D s n ∧ w.ownsRow B 3 1 bv n (zc (befs s n))
theorem FinderAt.below {w w' : World} {B gf gm : Nat} {s : ByteArray} {tr n : Nat} (h : FinderAt w B gf gm s tr n) (hb : Below w.heap.size w w') : FinderAt w' B gf gm s tr n := by
  obtain ⟨h1, h2, bv, D, h3, h4, h5, h6⟩ := h
  exact ⟨h1, h2, bv, D, (hb.block gf (Array.getElem?_eq_some_iff.1 h3).1).trans h3, h4.kept (row := none) ⟨hb.os, hb.tape, hb.output, hb.size, fun k hk _ => hb.block k hk⟩ (by simp), h5, own_below h6 hb⟩
theorem FinderAt.drewN {w : World} {B gf gm : Nat} {s : ByteArray} {tr n : Nat} (h : FinderAt w B gf gm s tr n) (m : Nat) : FinderAt (w.drewN m) B gf gm s tr n := h
theorem FinderAt.lt {w : World} {B gf gm : Nat} {s : ByteArray} {tr n : Nat} (h : FinderAt w B gf gm s tr n) : B ≤ gf ∧ gf < w.heap.size := by
  obtain ⟨h1, h2, bv, D, h3, _⟩ := h
  exact ⟨h1, (Array.getElem?_eq_some_iff.1 h3).1⟩
theorem FinderAt.cells {w : World} {B gf gm : Nat} {s : ByteArray} {tr n : Nat} (h : FinderAt w B gf gm s tr n) : w.cell? ⟨gf, 0, none⟩ = some (.string s) ∧ w.cell? ⟨gf, 1, none⟩ = some (.int .i64 (tr : Int)) ∧ w.cell? ⟨gf, 2, none⟩ = some (.map (some gm)) := by
  obtain ⟨h1, h2, bv, D, h3, _⟩ := h
  refine ⟨?_, ?_, ?_⟩ <;> (rw [cell_of_row _ _ _ _ _ _ h3]; rfl)
/-- Tokens that lie in memory stay. -/
def KeptT (w w' : World) : Prop := w.heap.size ≤ w'.heap.size ∧ ∀ (b : Nat) (c : Array Value) (p : Nat × Nat), w.heap[b]? = some (Obj.cells c 57 p) → w'.heap[b]? = some (Obj.cells c 57 p)
theorem KeptT.refl (w : World) : KeptT w w := ⟨Nat.le_refl _, fun _ _ _ h => h⟩
theorem KeptT.trans {a b c : World} (h : KeptT a b) (k : KeptT b c) : KeptT a c := ⟨Nat.le_trans h.1 k.1, fun i x p hi => k.2 i x p (h.2 i x p hi)⟩
theorem keptT_below {w w' : World} (hb : Below w.heap.size w w') : KeptT w w' := ⟨hb.size, fun i x p hi => (hb.block i (Array.getElem?_eq_some_iff.1 hi).1).trans hi⟩
theorem keptT_alloc (w : World) (o : Obj) : KeptT w (w.alloc o) := keptT_below ((Below.refl _ w).alloc (Nat.le_refl _) o)
theorem keptT_drewN (w : World) (n : Nat) : KeptT w (w.drewN n) := ⟨Nat.le_refl _, fun _ _ _ h => h⟩
theorem keptT_grown {w w' : World} {r : Option Nat} (hg : w.grownBy w' r) (hr : ∀ b, r = some b → ∀ (c : Array Value) (p : Nat × Nat), w.heap[b]? ≠ some (Obj.cells c 57 p)) : KeptT w w' :=
  ⟨hg.size, fun b c p hb => grown_block hg hb (fun e => hr b e.symm c p hb)⟩
theorem own_notTok {w : World} {B n : Nat} {ty : TypeId} {sz : Nat} {v : Value} {xs : List Value} (hO : w.ownsRow B ty sz v n xs) (hty : ty ≠ 57) : ∀ b, v.ownBlock = some b → ∀ (c : Array Value) (p : Nat × Nat), w.heap[b]? ≠ some (Obj.cells c 57 p) := by
  intro b hb c p hc
  exact own_ne hO hc (fun e => hty e.symm) hb.symm
theorem byt_int {s : ByteArray} {a b : Nat} : ((byt s a : Int) == (byt s b : Int)) = decide (byt s a = byt s b) := by
  rw [Bool.eq_iff_iff]; simp; omega
set_option maxRecDepth 100000 in
set_option maxHeartbeats 1000000 in
theorem alike_any (gf : Nat) (s : ByteArray) (a b top : Nat) (w : World) (hc : w.cell? ⟨gf, 0, none⟩ = some (.string s)) (ha : a + top ≤ s.size) (hb : b + top ≤ s.size) (hs : s.size ≤ 100000000) :
    Calls Try.prog 58 #[.pointer (some ⟨gf, 0, none⟩), .int .i64 (a : Int), .int .i64 (b : Int), .int .i64 (top : Int)] w fun e w' => e = .returned (.int .i64 (alikeF s a b top : Int)) ∧ ∃ n, w' = w.drewN n := by
  go_enter Try.func58, Try.ntmps58
  go_wp2
  go_loopw [9] (fun i wr => ∃ n : Nat, i = .int .i64 (n : Int) ∧ AlikeAt s a b top n ∧ ∃ m, wr = w.drewN m) (fun i _ => top - (intOf i).toNat)
  case atStart => exact ⟨0, rfl, alikeAt_start _ _ _ _, 0, rfl⟩
  case round =>
    obtain ⟨n, rfl, hA, m, rfl⟩ := hrel
    have hn1 := hA.1
    have HA : Hid (AlikeAt s a b top n) := hA
    clear hA
    have hcm : (w.drewN m).cell? ⟨gf, 0, none⟩ = some (.string s) := hc
    by_cases hlt : n < top
    · have hg : decide ((n : Int) < (top : Int)) = true := by simpa using hlt
      have i1 : (0 : Int) ≤ (a : Int) + (n : Int) := by omega
      have i2 : (a : Int) + (n : Int) < (s.size : Int) := by omega
      have i3 : (0 : Int) ≤ (b : Int) + (n : Int) := by omega
      have i4 : (b : Int) + (n : Int) < (s.size : Int) := by omega
      have hl1 : a + n < s.size := by omega
      have hl2 : b + n < s.size := by omega
      have e1 := byt_eq s (a + n) hl1
      have e2 := byt_eq s (b + n) hl2
      by_cases he : byt s (a + n) = byt s (b + n)
      · have hq : ((s[a + n].toNat : Int) == (s[b + n].toNat : Int)) = true := by rw [e1, e2, byt_int]; simpa using he
        have HN : Hid (AlikeAt s a b top (n + 1)) := alikeAt_step HA.out hlt he
        clear e1 e2 he
        go_wp2
        go_quiet (fail)
        go_wp2
        go_roundw
        case rel => exact ⟨n + 1, by go_num, HN.out, m + nq, rfl⟩
        case measure => simp [intOf]; omega
      · have hq : ((s[a + n].toNat : Int) == (s[b + n].toNat : Int)) = false := by rw [e1, e2, byt_int]; simpa using he
        have HN : Hid (alikeF s a b top = n) := alikeAt_end HA.out (.inr he)
        clear e1 e2 he
        go_wp2
        go_quiet (fail)
        go_wp2
        go_ret
        exact ⟨by rw [HN.out]; rfl, m + nq, by simp⟩
    · have hg : decide ((n : Int) < (top : Int)) = false := by simp; omega
      have HN : Hid (alikeF s a b top = n) := alikeAt_end HA.out (.inl (by omega))
      go_wp2
      go_quiet (fail)
      go_wp2
      go_ret
      exact ⟨by rw [HN.out]; rfl, m + nq, by simp⟩
end Go.Proofs.Ytibnkpfginffhac
