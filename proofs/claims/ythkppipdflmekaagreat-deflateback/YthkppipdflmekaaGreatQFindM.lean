/- A match.finder as it lies in memory, and the contract of its method alike. -/
import Derived.Test.YthkppipdflmekaaGreatQMatchE
import Derived.Deep.QuietTactic
import Derived.BigQuiet
import Derived.Maps.OwnSet
import Derived.Maps.OwnOps
set_option maxRecDepth 100000
set_option maxHeartbeats 1000000
namespace Go.Proofs.YthkppipdflmekaaGreat
open Go.RowKit
set_option linter.unusedVariables false
def tcs (ts : List Tok) : List Value := ts.flatMap fun t => [.int .u8 (t.b : Int), .int .i64 t.l, .int .i64 t.d]
theorem q1p (ts : List Tok) : (tcs ts).length = ts.length * 3 := by
 induction ts with
 | nil => rfl
 | cons t ts ih => unfold tcs at *; rw [List.flatMap_cons, List.length_append, ih]; simp; omega
theorem qdx (ts : List Tok) (t : Tok) : tcs (ts ++ [t]) = tcs ts ++ [.int .u8 (t.b : Int), .int .i64 t.l, .int .i64 t.d] := by
 unfold tcs; rw [List.flatMap_append]; rfl
theorem qul : ∀ (ts : List Tok) (i : Nat) (t : Tok), ts[i]? = some t → (tcs ts)[i * 3]? = some (.int .u8 (t.b : Int)) ∧ (tcs ts)[i * 3 + 1]? = some (.int .i64 t.l) ∧ (tcs ts)[i * 3 + 2]? = some (.int .i64 t.d)
 | [], i, t, h => by simp at h
 | u :: ts, 0, t, h => by
  simp only [List.getElem?_cons_zero, Option.some.injEq] at h
  subst h
  exact ⟨rfl, rfl, rfl⟩
 | u :: ts, i + 1, t, h => by
  rw [List.getElem?_cons_succ] at h
  have ih := qul ts i t h
  have e : tcs (u :: ts) = [.int .u8 (u.b : Int), .int .i64 u.l, .int .i64 u.d] ++ tcs ts := by unfold tcs; rw [List.flatMap_cons]
  rw [e]
  refine ⟨?_, ?_, ?_⟩
  · rw [List.getElem?_append_right (by simp; omega)]; simp only [List.length_cons, List.length_nil]; rw [show (i + 1) * 3 - (0 + 1 + 1 + 1) = i * 3 by omega]; exact ih.1
  · rw [List.getElem?_append_right (by simp; omega)]; simp only [List.length_cons, List.length_nil]; rw [show (i + 1) * 3 + 1 - (0 + 1 + 1 + 1) = i * 3 + 1 by omega]; exact ih.2.1
  · rw [List.getElem?_append_right (by simp; omega)]; simp only [List.length_cons, List.length_nil]; rw [show (i + 1) * 3 + 2 - (0 + 1 + 1 + 1) = i * 3 + 2 by omega]; exact ih.2.2
def TR (w : World) (v : Value) (ts : List Tok) : Prop := (ts = [] ∧ ∃ a cap, v = .slice a 0 cap) ∨ ∃ g cap, v = .slice (some ⟨g, 0, none⟩) ts.length cap ∧ g < w.heap.size ∧ ∀ i t, ts[i]? = some t → w.cell? ⟨g, i * 3, none⟩ = some (.int .u8 (t.b : Int)) ∧ w.cell? ⟨g, i * 3 + 1, none⟩ = some (.int .i64 t.l) ∧ w.cell? ⟨g, i * 3 + 2, none⟩ = some (.int .i64 t.d)
theorem TR.form {w : World} {v : Value} {ts : List Tok} (h : TR w v ts) : ∃ a cap, v = .slice a ts.length cap ∧ ∀ i t, ts[i]? = some t → ∃ g, a = some ⟨g, 0, none⟩ ∧ g < w.heap.size ∧ w.cell? ⟨g, i * 3, none⟩ = some (.int .u8 (t.b : Int)) ∧ w.cell? ⟨g, i * 3 + 1, none⟩ = some (.int .i64 t.l) ∧ w.cell? ⟨g, i * 3 + 2, none⟩ = some (.int .i64 t.d) := by
 rcases h with ⟨rfl, a, cap, rfl⟩ | ⟨g, cap, h1, h2, h3⟩
 · exact ⟨a, cap, rfl, fun i t ht => by simp at ht⟩
 · exact ⟨_, cap, h1, fun i t ht => ⟨g, rfl, h2, h3 i t ht⟩⟩
theorem TR.own {w : World} {B : Nat} {ty : TypeId} {v : Value} {ts : List Tok} (h : w.ownsRow B ty 3 v ts.length (tcs ts)) : TR w v ts := by
 have hlt := h.lt
 rcases h.2 with ⟨rfl, h0⟩ | ⟨g, cap, cur, rfl, _⟩
 · exact .inl ⟨List.eq_nil_of_length_eq_zero h0, _, _, rfl⟩
 · refine .inr ⟨g, cap, rfl, (hlt g rfl).2, fun i t ht => ?_⟩
   obtain ⟨a, b, c⟩ := qul ts i t ht
   have hi := (List.getElem?_eq_some_iff.1 ht).1
   exact ⟨by rw [h.cellAt (i * 3) (by omega)]; exact a, by rw [h.cellAt (i * 3 + 1) (by omega)]; exact b, by rw [h.cellAt (i * 3 + 2) (by omega)]; exact c⟩
theorem qu7 {out : List Nat} {t : Tok} (h : qbr t = true) : (sayT out t).length ≤ out.length + 258 := by
 have h1 := qhl (out := out) h
 have h2 := q0p h
 omega
theorem qam {w : World} {B n : Nat} {ty : TypeId} {sz : Nat} {v : Value} {xs : List Value} (h : w.ownsRow B ty sz v n xs) : ∃ a cap, v = .slice a n cap := by
 rcases h.2 with ⟨rfl, rfl⟩ | ⟨g, cap, cur, rfl, _⟩
 · exact ⟨none, 0, rfl⟩
 · exact ⟨_, _, rfl⟩
theorem qa0 {w w' : World} {B n : Nat} {ty : TypeId} {sz : Nat} {v : Value} {xs : List Value} (h : w.ownsRow B ty sz v n xs) (hb : Below w.heap.size w w') : w'.ownsRow B ty sz v n xs :=
 h.kept (row := none) ⟨hb.os, hb.tape, hb.output, hb.size, fun k hk _ => hb.block k hk⟩ (by
  cases hv : v.ownBlock with
  | none => exact .inl rfl
  | some k => exact .inr (by simp))
theorem qsg {wr w2 : World} {c : Array Value} {ty : TypeId} (hb : Below (wr.alloc (.cells c ty)).heap.size (wr.alloc (.cells c ty)) w2) : w2.heap[wr.heap.size]? = some (.cells c ty (0, 0)) :=
 (hb.block wr.heap.size (by rw [World.size_alloc]; omega)).trans (heap_alloc_new wr _)
theorem qge {out : List Nat} {most : Int} {t : Tok} (h : qbr t = false ∨ (out.length : Int) < t.d) : errT out most t = 4 := by unfold errT; rw [if_pos h]
theorem qr1 {out : List Nat} {most : Int} {t : Tok} (h1 : qbr t = true) (h2 : t.d ≤ (out.length : Int)) (h : most < (out.length : Int) + wid t) : errT out most t = 2 := by
 unfold errT
 rw [if_neg (fun h => by rcases h with h | h; · rw [h1] at h; cases h
                         · omega), if_pos h]
theorem qtv (v : Value) (ts : List Tok) (most : Int) (w : World) (hR : TR w v ts) (hl : ts.length ≤ 100000000) (hm1 : -9223372036854775808 ≤ most) (hm2 : most ≤ 9223372036854775807) :
    Calls Tryz.prog 35 #[v, .int .i64 most] w fun e w' => e = .returned (.tuple #[.string (bs (expF most ts []).1), .int .i64 ((expF most ts []).2 : Int)]) ∧ Below w.heap.size w w' := by
 obtain ⟨a, cap, rfl, hf⟩ := hR.form
 have HF : Hid (∀ i t, ts[i]? = some t → ∃ g, a = some ⟨g, 0, none⟩ ∧ g < w.heap.size ∧ w.cell? ⟨g, i * 3, none⟩ = some (.int .u8 (t.b : Int)) ∧ w.cell? ⟨g, i * 3 + 1, none⟩ = some (.int .i64 t.l) ∧ w.cell? ⟨g, i * 3 + 2, none⟩ = some (.int .i64 t.d)) := hf
 clear hf hR
 go_enter Tryz.func35, Tryz.ntmps35
 go_wp2
 go_loopw [6, 11] (fun o i wr => ∃ (k : Nat) (out : List Nat), k ≤ ts.length ∧ i = .int .i64 (k : Int) ∧ out.length ≤ 258 * k ∧ qju most ts k out ∧ wr.ownsRow w.heap.size 5 1 o out.length (cs out) ∧ Below w.heap.size w wr) (fun _ i _ => ts.length - (intOf i).toNat)
 case atStart => exact ⟨0, [], by omega, rfl, by simp, qpk _ _, World.ownsRow_nil _ _ _ _, Below.refl _ _⟩
 case round =>
  obtain ⟨k, out, hk, rfl, ho, hE, hO, hB⟩ := hrel
  have HE : Hid (qju most ts k out) := hE
  have HO : Hid (wr.ownsRow w.heap.size 5 1 _ out.length (cs out)) := hO
  have HB : Hid (Below w.heap.size w wr) := hB
  have hsz := hB.size
  by_cases hlt : k < ts.length
  · obtain ⟨t, ht⟩ : ∃ t, ts[k]? = some t := ⟨_, List.getElem?_eq_getElem hlt⟩
    obtain ⟨g, rfl, hg, c0, c1, c2⟩ := HF.out k t ht
    rw [← hB.cell (p := ⟨g, k * 3, none⟩) hg] at c0
    rw [← hB.cell (p := ⟨g, k * 3 + 1, none⟩) hg] at c1
    rw [← hB.cell (p := ⟨g, k * 3 + 2, none⟩) hg] at c2
    have hki : (k : Int) < (ts.length : Int) := by omega
    have hki0 : (0 : Int) ≤ (k : Int) := by omega
    have HT : Hid (ts[k]? = some t) := ht
    obtain ⟨ao, co, rfl⟩ := qam hO
    clear hE hO hB ht
    have HBX : Hid (Below w.heap.size w (wr.alloc (.cells #[.int .u8 (t.b : Int), .int .i64 t.l, .int .i64 t.d] 95))) := HB.out.alloc hsz _
    have HIS : Hid (∀ W, Calls Tryz.prog 66 #[.agg #[.int .u8 (t.b : Int), .int .i64 t.l, .int .i64 t.d]] W fun e w' => e = .returned (.bool (qbr t)) ∧ Below W.heap.size W w') := fun W => qph t W
    have HWD : Hid (∀ W, Calls Tryz.prog 45 #[.agg #[.int .u8 (t.b : Int), .int .i64 t.l, .int .i64 t.d]] W fun e w' => e = .returned (.int .i64 (wid t)) ∧ Below W.heap.size W w') := fun W => qfq t W
    have hw1 := qed t
    by_cases hT : qbr t = true
    · have hw2 := q0p hT
      by_cases hd : t.d ≤ (out.length : Int)
      · have hdn : ¬ (out.length : Int) < t.d := by omega
        go_wp2_with fail
        refine (HIS.out _).mono ?_
        rw [hT]
        rintro e w2 ⟨rfl, hb2⟩
        have hN2 := qsg hb2
        have HB2 : Hid (Below w.heap.size w w2) := HBX.out.trans (hb2.mono (by rw [World.size_alloc]; omega))
        have HO2 : Hid (w2.ownsRow w.heap.size 5 1 (.slice ao out.length co) out.length (cs out)) := qa0 (HO.out.alloc _) hb2
        obtain ⟨d0, d1, d2⟩ := qh3 hN2
        have HN2 : Hid (w2.heap[wr.heap.size]? = some (.cells #[.int .u8 (t.b : Int), .int .i64 t.l, .int .i64 t.d] 95 (0, 0))) := hN2
        have hz2 : wr.heap.size < w2.heap.size := (Array.getElem?_eq_some_iff.1 hN2).1
        clear hb2 hN2 c0 c1 c2
        go_wp2_with fail
        refine (HWD.out _).mono ?_
        rintro e w3 ⟨rfl, hb3⟩
        have HB3 : Hid (Below w.heap.size w w3) := HB2.out.trans (hb3.mono (by omega))
        have HO3 : Hid (w3.ownsRow w.heap.size 5 1 (.slice ao out.length co) out.length (cs out)) := qa0 HO2.out hb3
        have hz3 : wr.heap.size < w3.heap.size := Nat.lt_of_lt_of_le hz2 hb3.size
        obtain ⟨e0, e1, e2⟩ := qh3 ((hb3.block wr.heap.size hz2).trans HN2.out)
        clear hb3 d0 d1 d2
        by_cases hm : (out.length : Int) + wid t ≤ most
        · have HE0 : Hid (errT out most t = 0) := ql6 hT hd hm
          have HSL : Hid ((sayT out t).length ≤ out.length + 258) := qu7 hT
          have HSY : Hid (Calls _ _ _ _ _) := q18 w.heap.size out (.slice ao out.length co) t w3 HO3.out hT hd (by omega) (by omega)
          have hmn : ¬ most < (out.length : Int) + wid t := by omega
          generalize wid t = wt at *
          go_wp2_with fail
          refine (Hid.out HSY : Calls _ _ _ _ _).mono ?_
          rintro e w4 ⟨v4, rfl, hO4, hb4⟩
          have HO4 : Hid (w4.ownsRow w.heap.size 5 1 v4 (sayT out t).length (cs (sayT out t))) := hO4
          have HB4 : Hid (Below w.heap.size w w4) := HB3.out.trans hb4
          clear hO4 hb4 HSY e0 e1 e2
          go_wp2
          go_roundw
          case rel => exact ⟨k + 1, sayT out t, by omega, by go_num, by have := HSL.out; omega, qtw HE.out HT.out HE0.out, HO4.out, HB4.out⟩
          case measure => simp [intOf]; omega
        · have HER : Hid (expF most ts [] = ([], errT out most t)) := qjb HE.out HT.out (by rw [qr1 hT hd (by omega)]; decide)
          have HE2 : Hid (errT out most t = 2) := qr1 hT hd (by omega)
          have hmn : most < (out.length : Int) + wid t := by omega
          generalize wid t = wt at *
          go_wp2
          go_ret2
          exact ⟨by rw [HER.out, HE2.out]; rfl, HB3.out⟩
      · have hdn : (out.length : Int) < t.d := by omega
        have HER : Hid (expF most ts [] = ([], errT out most t)) := qjb HE.out HT.out (by rw [qge (.inr hdn)]; decide)
        have HE4 : Hid (errT out most t = 4) := qge (.inr hdn)
        go_wp2_with fail
        refine (HIS.out _).mono ?_
        rw [hT]
        rintro e w2 ⟨rfl, hb2⟩
        have hN2 := qsg hb2
        have HB2 : Hid (Below w.heap.size w w2) := HBX.out.trans (hb2.mono (by rw [World.size_alloc]; omega))
        obtain ⟨d0, d1, d2⟩ := qh3 hN2
        clear hb2 hN2 c0 c1 c2
        go_wp2
        go_ret2
        exact ⟨by rw [HER.out, HE4.out]; rfl, HB2.out⟩
    · have hT0 : qbr t = false := by simpa using hT
      have HER : Hid (expF most ts [] = ([], errT out most t)) := qjb HE.out HT.out (by rw [qge (.inl hT0)]; decide)
      have HE4 : Hid (errT out most t = 4) := qge (.inl hT0)
      go_wp2_with fail
      refine (HIS.out _).mono ?_
      rw [hT0]
      rintro e w2 ⟨rfl, hb2⟩
      have HB2 : Hid (Below w.heap.size w w2) := HBX.out.trans (hb2.mono (by rw [World.size_alloc]; omega))
      clear hb2 c0 c1 c2
      go_wp2
      go_ret2
      exact ⟨by rw [HER.out, HE4.out]; rfl, HB2.out⟩
  · have HEN : Hid (expF most ts [] = (out, 0)) := qwt hE (by omega)
    have hcv := ql9 (P := Tryz.prog) (dst := 9) (l := out) Tryz.underlying54 Tryz.underlying5 Tryz.underlying9 hO
    have HB : Hid (Below w.heap.size w wr) := hB
    clear hE hO hB HO HE
    go_wp2
    go_ret2
    exact ⟨by rw [HEN.out]; rfl, HB.out⟩
theorem qa5 (w : World) (a : Addr) (v : Value) : w.grownBy (w.setCell a v) (some a.block) := by
 refine ⟨rfl, rfl, rfl, by simp, fun k hk hne => ?_⟩
 rw [RowKit.Below.heap_setCell _ _ _ _ (fun e => hne (by rw [e]))]
def put3 (w : World) (b : Nat) (t : Tok) : World := ((w.setCell ⟨b, 0, none⟩ (.int .u8 (t.b : Int))).setCell ⟨b, 1, none⟩ (.int .i64 t.l)).setCell ⟨b, 2, none⟩ (.int .i64 t.d)
theorem qm2 {w : World} {b : Nat} {x y z : Value} {ty : TypeId} (h : w.heap[b]? = some (.cells #[x, y, z] ty (0, 0))) (t : Tok) : (put3 w b t).heap[b]? = some (.cells #[.int .u8 (t.b : Int), .int .i64 t.l, .int .i64 t.d] ty (0, 0)) := by
 unfold put3
 rw [heap_setCell_same _ _ _ _ _ _ (heap_setCell_same _ _ _ _ _ _ (heap_setCell_same _ _ _ _ _ _ h))]; rfl
theorem qd3 {a b c : World} {r : Option Nat} (h : a.grownBy b r) (k : b.grownBy c r) : a.grownBy c r :=
 ⟨k.os.trans h.os, k.tape.trans h.tape, k.output.trans h.output, Nat.le_trans h.size k.size, fun i hi hne => (k.block i (Nat.lt_of_lt_of_le hi h.size) hne).trans (h.block i hi hne)⟩
theorem qa1 (w : World) (b : Nat) (t : Tok) : w.grownBy (put3 w b t) (some b) :=
 qd3 (qd3 (qa5 w ⟨b, 0, none⟩ _) (qa5 _ ⟨b, 1, none⟩ _)) (qa5 _ ⟨b, 2, none⟩ _)
theorem qaf {w : World} {b : Nat} {x y z : Value} {ty : TypeId} (h : w.heap[b]? = some (.cells #[x, y, z] ty (0, 0))) : w.cell? ⟨b, 0, none⟩ = some x ∧ w.cell? ⟨b, 1, none⟩ = some y ∧ w.cell? ⟨b, 2, none⟩ = some z ∧ w.frozen? ⟨b, 0, none⟩ = false ∧ w.frozen? ⟨b, 1, none⟩ = false ∧ w.frozen? ⟨b, 2, none⟩ = false := by
 refine ⟨?_, ?_, ?_, frozen_of_row _ _ _ _ _ h, frozen_of_row _ _ _ _ _ h, frozen_of_row _ _ _ _ _ h⟩ <;> (rw [cell_of_row _ _ _ _ _ _ h]; rfl)
open Go.RowKit Go.WideMaps Go.Maps
set_option linter.unusedVariables false
def zc (ns : List Nat) : List Value := ns.map fun n : Nat => Value.int .i64 (n : Int)
theorem q1f (ns : List Nat) (n : Nat) : zc (ns ++ [n]) = zc ns ++ [.int .i64 (n : Int)] := by simp [zc]
def befs (s : ByteArray) (n : Nat) : List Nat := (List.range n).map (qda s)
theorem qxj (s : ByteArray) (n : Nat) : befs s (n + 1) = befs s n ++ [qda s n] := by unfold befs; rw [List.range_succ, List.map_append]; rfl
theorem q3s (s : ByteArray) (n i : Nat) (h : i < n) : (zc (befs s n))[i]? = some (.int .i64 (qda s i : Int)) := by
 unfold zc befs
 rw [List.getElem?_map, List.getElem?_map, List.getElem?_range h]; rfl
def qt6 (D : DataW Unit) (s : ByteArray) (n : Nat) : Prop := ∀ key : ByteArray, D.atKey (.string key.data.toList) (.lit (.int .i64 0)) = .lit (.int .i64 (qhe s key n : Int))
theorem qs8 (s : ByteArray) : qt6 (.map []) s 0 := fun key => rfl
theorem qu5 {D : DataW Unit} {s : ByteArray} {n : Nat} (h : qt6 D s n) (hm : IsMap D) : qt6 (D.put (.string (key3 s n).data.toList) (.lit (.int .i64 ((n : Int) + 1)))) s (n + 1) := by
 intro key
 rw [qhe]
 by_cases e : key3 s n = key
 · rw [if_pos e, ← e, atKey_put_same hm (show WideAt.IsKeyLit (.string _) from trivial)]; rfl
 · rw [if_neg e, atKey_put_other (fun hh => e (qhc (by simpa using hh)).symm)]
   exact h key
theorem Tryz.infoIm : (Tryz.prog.info? 3).map (fun i => (i.zero, i.size, i.bytes)) = some (some (.int .i64 0), 1, 8) := by kernel_rfl
theorem qus : Keyed Tryz.prog 9 := string_keyed Tryz.underlying9
theorem q34 (w : World) : (zeroValue 3).run Tryz.prog w = .ok (.int .i64 0) w := by kernel_rfl
def qak (w : World) (B gf gm : Nat) (s : ByteArray) (tr n : Nat) : Prop := B ≤ gf ∧ B ≤ gm ∧ ∃ bv D, w.heap[gf]? = some (.cells #[.string s, .int .i64 (tr : Int), .map (some gm), bv] 115 (0, 0)) ∧
 w.ownsMap Tryz.prog 9 (plainElem Tryz.prog 3) gm n D ∧ qt6 D s n ∧ w.ownsRow B 3 1 bv n (zc (befs s n))
theorem qak.below {w w' : World} {B gf gm : Nat} {s : ByteArray} {tr n : Nat} (h : qak w B gf gm s tr n) (hb : Below w.heap.size w w') : qak w' B gf gm s tr n := by
 obtain ⟨h1, h2, bv, D, h3, h4, h5, h6⟩ := h
 exact ⟨h1, h2, bv, D, (hb.block gf (Array.getElem?_eq_some_iff.1 h3).1).trans h3, h4.kept (row := none) ⟨hb.os, hb.tape, hb.output, hb.size, fun k hk _ => hb.block k hk⟩ (by simp), h5, qa0 h6 hb⟩
theorem qak.cells {w : World} {B gf gm : Nat} {s : ByteArray} {tr n : Nat} (h : qak w B gf gm s tr n) : w.cell? ⟨gf, 0, none⟩ = some (.string s) ∧ w.cell? ⟨gf, 1, none⟩ = some (.int .i64 (tr : Int)) ∧ w.cell? ⟨gf, 2, none⟩ = some (.map (some gm)) := by
 obtain ⟨h1, h2, bv, D, h3, _⟩ := h
 refine ⟨?_, ?_, ?_⟩ <;> (rw [cell_of_row _ _ _ _ _ _ h3]; rfl)
def qb9 (w w' : World) : Prop := w.heap.size ≤ w'.heap.size ∧ ∀ (b : Nat) (c : Array Value) (p : Nat × Nat), w.heap[b]? = some (Obj.cells c 95 p) → w'.heap[b]? = some (Obj.cells c 95 p)
theorem qb9.refl (w : World) : qb9 w w := ⟨Nat.le_refl _, fun _ _ _ h => h⟩
theorem qb9.trans {a b c : World} (h : qb9 a b) (k : qb9 b c) : qb9 a c := ⟨Nat.le_trans h.1 k.1, fun i x p hi => k.2 i x p (h.2 i x p hi)⟩
theorem qd2 {w w' : World} (hb : Below w.heap.size w w') : qb9 w w' := ⟨hb.size, fun i x p hi => (hb.block i (Array.getElem?_eq_some_iff.1 hi).1).trans hi⟩
theorem qdd (w : World) (o : Obj) : qb9 w (w.alloc o) := qd2 ((Below.refl _ w).alloc (Nat.le_refl _) o)
theorem qi3 (w : World) (n : Nat) : qb9 w (w.drewN n) := ⟨Nat.le_refl _, fun _ _ _ h => h⟩
theorem qfl {w w' : World} {r : Option Nat} (hg : w.grownBy w' r) (hr : ∀ b, r = some b → ∀ (c : Array Value) (p : Nat × Nat), w.heap[b]? ≠ some (Obj.cells c 95 p)) : qb9 w w' :=
 ⟨hg.size, fun b c p hb => qa3 hg hb (fun e => hr b e.symm c p hb)⟩
theorem qtk {w : World} {B n : Nat} {ty : TypeId} {sz : Nat} {v : Value} {xs : List Value} (hO : w.ownsRow B ty sz v n xs) (hty : ty ≠ 95) : ∀ b, v.ownBlock = some b → ∀ (c : Array Value) (p : Nat × Nat), w.heap[b]? ≠ some (Obj.cells c 95 p) := by
 intro b hb c p hc
 exact qcd hO hc (fun e => hty e.symm) hb.symm
theorem qxb {s : ByteArray} {a b : Nat} : ((byt s a : Int) == (byt s b : Int)) = decide (byt s a = byt s b) := by
 rw [Bool.eq_iff_iff]; simp; omega
theorem qxo (gf : Nat) (s : ByteArray) (a b top : Nat) (w : World) (hc : w.cell? ⟨gf, 0, none⟩ = some (.string s)) (ha : a + top ≤ s.size) (hb : b + top ≤ s.size) (hs : s.size ≤ 100000000) :
    Calls Tryz.prog 74 #[.pointer (some ⟨gf, 0, none⟩), .int .i64 (a : Int), .int .i64 (b : Int), .int .i64 (top : Int)] w fun e w' => e = .returned (.int .i64 (qbz s a b top : Int)) ∧ ∃ n, w' = w.drewN n := by
 go_enter Tryz.func74, Tryz.ntmps74
 go_wp2
 go_loopw [9] (fun i wr => ∃ n : Nat, i = .int .i64 (n : Int) ∧ qfp s a b top n ∧ ∃ m, wr = w.drewN m) (fun i _ => top - (intOf i).toNat)
 case atStart => exact ⟨0, rfl, qme _ _ _ _, 0, rfl⟩
 case round =>
  obtain ⟨n, rfl, hA, m, rfl⟩ := hrel
  have hn1 := hA.1
  have HA : Hid (qfp s a b top n) := hA
  clear hA
  have hcm : (w.drewN m).cell? ⟨gf, 0, none⟩ = some (.string s) := hc
  by_cases hlt : n < top
  · have hg : decide ((n : Int) < (top : Int)) = true := by simpa using hlt
    have i1 : (0 : Int) ≤ (a : Int) + (n : Int) := by omega
    have i2 : (a : Int) + (n : Int) < (s.size : Int) := by omega
    have i3 : (0 : Int) ≤ (b : Int) + (n : Int) := by omega
    have i4 : (b : Int) + (n : Int) < (s.size : Int) := by omega
    have hl1 : a + n < s.size := by omega
    have hl2 : b + n < s.size := by omega
    have e1 := qn3 s (a + n) hl1
    have e2 := qn3 s (b + n) hl2
    by_cases he : byt s (a + n) = byt s (b + n)
    · have hq : ((s[a + n].toNat : Int) == (s[b + n].toNat : Int)) = true := by rw [e1, e2, qxb]; simpa using he
      have HN : Hid (qfp s a b top (n + 1)) := qof HA.out hlt he
      clear e1 e2 he
      go_wp2
      go_quiet (fail)
      go_wp2
      go_roundw
      case rel => exact ⟨n + 1, by go_num, HN.out, m + nq, rfl⟩
      case measure => simp [intOf]; omega
    · have hq : ((s[a + n].toNat : Int) == (s[b + n].toNat : Int)) = false := by rw [e1, e2, qxb]; simpa using he
      have HN : Hid (qbz s a b top = n) := qjl HA.out (.inr he)
      clear e1 e2 he
      go_wp2
      go_quiet (fail)
      go_wp2
      go_ret
      exact ⟨by rw [HN.out]; rfl, m + nq, by simp⟩
  · have hg : decide ((n : Int) < (top : Int)) = false := by simp; omega
    have HN : Hid (qbz s a b top = n) := qjl HA.out (.inl (by omega))
    go_wp2
    go_quiet (fail)
    go_wp2
    go_ret
    exact ⟨by rw [HN.out]; rfl, m + nq, by simp⟩
end Go.Proofs.YthkppipdflmekaaGreat
