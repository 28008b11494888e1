/- Two indexes beside one another; how long an index is as bytes; heads that came in. -/
import Derived.Test.YtpfjcdfhlcnlcaaAwk17
import Derived.Deep.Slices
import Derived.ProofKit
import Derived.OpenShut
namespace Go.Proofs.Ytpfjcdfhlcnlcaa
open Go.ChangeShapes Go.WideShapes Go.ChangeAt Go.RowKit Go.Maps
set_option linter.unusedVariables false
set_option linter.unusedSimpArgs false

/-- Two indexes; H: blocks that others hold. -/
def II (w : World) (x y : Nat) (H : Nat → Prop) (px : List (List UInt8)) (Fx : As Pl) (py : List (List UInt8)) (Fy : As Pl) : Prop :=
  ∃ Kx Ky : Nat → Prop, IX w x Kx px Fx ∧ IX w y Ky py Fy ∧ (∀ k, k < w.heap.size → Kx k ∨ Ky k) ∧ ∀ k, H k → Kx k ∧ Ky k
section
variable {w w' : World} {x y : Nat} {H : Nat → Prop} {px py : List (List UInt8)} {Fx Fy : As Pl}
theorem II.symm (h : II w x y H px Fx py Fy) : II w y x H py Fy px Fx := by
  obtain ⟨Kx, Ky, h1, h2, h3, h4⟩ := h
  exact ⟨Ky, Kx, h2, h1, fun k hk => (h3 k hk).symm, fun k hk => (h4 k hk).symm⟩
theorem II.below (h : II w x y H px Fx py Fy) (hb : Below w.heap.size w w') : II w' x y (fun k => H k ∨ (w.heap.size ≤ k ∧ k < w'.heap.size)) px Fx py Fy := by
  obtain ⟨Kx, Ky, h1, h2, h3, h4⟩ := h
  refine ⟨_, _, h1.all hb, h2.all hb, fun k hk => ?_, fun k hk => ?_⟩
  · rcases Nat.lt_or_ge k w.heap.size with hl | hl
    · rcases h3 k hl with h | h
      · exact .inl (.inl h)
      · exact .inr (.inl h)
    · exact .inl (.inr ⟨hl, hk⟩)
  · rcases hk with hk | hk
    · exact ⟨.inl (h4 k hk).1, .inl (h4 k hk).2⟩
    · exact ⟨.inr hk, .inr hk⟩
theorem II.less (h : II w x y H px Fx py Fy) {H' : Nat → Prop} (hH : ∀ k, H' k → H k) : II w x y H' px Fx py Fy := by
  obtain ⟨Kx, Ky, h1, h2, h3, h4⟩ := h
  exact ⟨Kx, Ky, h1, h2, h3, fun k hk => h4 k (hH k hk)⟩
theorem II.ox (h : II w x y H px Fx py Fy) : ∃ m1 m2, IXo w x m1 m2 px Fx := by
  obtain ⟨Kx, Ky, h1, _⟩ := h; exact h1.o
theorem II.oy (h : II w x y H px Fx py Fy) : ∃ m1 m2, IXo w y m1 m2 py Fy := h.symm.ox
theorem II.kdx (h : II w x y H px Fx py Fy) : KdA Fx ∧ px.Nodup := by
  obtain ⟨Kx, Ky, h1, _⟩ := h; exact h1.kd
theorem II.kdy (h : II w x y H px Fx py Fy) : KdA Fy ∧ py.Nodup := h.symm.kdx
theorem II.Hb (h : II w x y H px Fx py Fy) : ∀ k, H k → k < w.heap.size := by
  obtain ⟨Kx, Ky, h1, _, _, h4⟩ := h; exact fun k hk => h1.Kb k (h4 k hk).1
theorem HV.less {v : Value} {l : List Hd} {K : Nat → Prop} (h : HV w H v l) (hK : ∀ k, H k → K k) : HV w K v l := by
  obtain ⟨a, cap, rfl, hc, hf⟩ := h
  refine ⟨a, cap, rfl, hc, fun hne => ?_⟩
  obtain ⟨g, o, rfl, hg, hl, hh⟩ := hf hne
  exact ⟨g, o, rfl, hK _ hg, hl, hh⟩
/-- Add to the one. -/
theorem II.add (h : II w x y H px Fx py Fy) (k : List UInt8) (v : Value) (hs : List Hd) (hv : HV w H v hs) (hk : k.length ≤ 140737488351232) (hn : ∀ y ∈ hs, y.n.length ≤ 140737488351232) (hp : px.length ≤ 1000000000) (hF : Fx.length + hs.length ≤ 1000000000) :
    Calls Try.prog 6 #[.pointer (some ⟨x, 0, none⟩), .string (mkB k), v] w fun e w' => e = .returned (.tuple #[]) ∧ II w' x y H (adP px k) (adH k Fx hs) py Fy ∧ Keeps H w w' := by
  obtain ⟨Kx, Ky, h1, h2, h3, h4⟩ := h
  refine (add_any k v hs w h1 (hv.less (fun k hk => (h4 k hk).1)) hk hn hp hF).mono ?_
  rintro e w' ⟨rfl, q1, q2⟩
  refine ⟨rfl, ⟨Kx, fun k => Ky k ∨ (w.heap.size ≤ k ∧ k < w'.heap.size), q1, ?_, fun k hk => ?_, fun k hk => ⟨(h4 k hk).1, .inl (h4 k hk).2⟩⟩, q2.mono (fun k hk => (h4 k hk).1)⟩
  · refine h2.kept (fun k hk hn => q2.block k ?_) (fun k hk => ?_)
    · rcases h3 k hk with h | h
      · exact h
      · exact absurd h hn
    · rcases hk with hk | hk
      · exact ⟨Nat.lt_of_lt_of_le (h2.Kb k hk) q2.size, .inl hk⟩
      · exact ⟨hk.2, .inr hk.1⟩
  · rcases Nat.lt_or_ge k w.heap.size with hl | hl
    · rcases h3 k hl with h | h
      · exact .inl h
      · exact .inr (.inl h)
    · exact .inr (.inr ⟨hl, hk⟩)
end
theorem II.zero (w : World) : II ((w.alloc (.cells #[.map none, .map none] 27)).alloc (.cells #[.map none, .map none] 27)) w.heap.size (w.heap.size + 1) (fun k => k < w.heap.size) [] [] [] [] := by
  have e1 : ((w.alloc (.cells #[.map none, .map none] 27)).alloc (.cells #[.map none, .map none] 27)).heap[w.heap.size]? = some (.cells #[.map none, .map none] 27 (0, 0)) := (Below.heap_alloc _ _ _ (by simp)).trans (heap_alloc_new _ _)
  have e2 : ((w.alloc (.cells #[.map none, .map none] 27)).alloc (.cells #[.map none, .map none] 27)).heap[w.heap.size + 1]? = some (.cells #[.map none, .map none] 27 (0, 0)) := by
    have := heap_alloc_new (w.alloc (.cells #[.map none, .map none] 27)) (.cells #[.map none, .map none] 27)
    rw [World.size_alloc] at this; exact this
  refine ⟨fun k => k < w.heap.size + 2 ∧ k ≠ w.heap.size, fun k => k < w.heap.size + 2 ∧ k ≠ w.heap.size + 1, .inr ⟨fun k hk => by simp; omega, fun h => h.2 rfl, e1, rfl, rfl⟩, .inr ⟨fun k hk => by simp; omega, fun h => h.2 rfl, e2, rfl, rfl⟩, fun k hk => ?_, fun k hk => ⟨⟨by omega, by omega⟩, by omega, by omega⟩⟩
  simp at hk
  by_cases h : k = w.heap.size
  · exact .inr ⟨by omega, by omega⟩
  · exact .inl ⟨by omega, h⟩
/-- How long an index is as bytes. -/
theorem flat_le {α : Type} (f : α → List UInt8) (n : Nat) : ∀ (l : List α), (∀ x ∈ l, (f x).length ≤ n) → (l.map f).flatten.length ≤ l.length * n
  | [], _ => by simp
  | a :: l, h => by
    have h1 := flat_le f n l (fun x hx => h x (by simp [hx]))
    have h2 := h a (by simp)
    simp only [List.map_cons, List.flatten_cons, List.length_append, List.length_cons]
    rw [Nat.succ_mul]; omega
theorem encI_len {ps : List (List UInt8)} {F : As Pl} (hp : ∀ p ∈ ps, p.length ≤ 100000) (hpl : ps.length ≤ 1000) (hF : F.length ≤ 1000) (hk : ∀ x p, lkA F x = some p → x.length ≤ 100000 ∧ p.h.ok) : (encI ps F).length ≤ 1000000000 := by
  unfold encI
  simp only [List.length_append]
  have a1 := vb_len ps.length (by omega)
  have a2 := vb_len F.length (by omega)
  have tx : ∀ x : List UInt8, x.length ≤ 100000 → (txB x).length ≤ 100010 := fun x hx => by
    unfold txB; rw [List.length_append]; have := vb_len x.length (by omega); omega
  have a3 := flat_le txB 100010 ps (fun p hp' => tx p (hp p hp'))
  have a4 := flat_le (enB ps F) 100070 (nmA F) (fun x hx => by
    obtain ⟨p, hpp⟩ := Option.isSome_iff_exists.1 (nmA_mem.1 hx)
    obtain ⟨hx1, ⟨⟨q1, q2⟩, ⟨q3, q4⟩, ⟨q5, q6⟩, ⟨q7, q8⟩, ⟨q9, q10⟩⟩⟩ := hk x p hpp
    obtain ⟨i, hi, hil⟩ := pk_num ps p.k
    unfold enB
    simp only [hpp, Option.getD_some, List.length_append]
    rw [hi]
    have b0 := tx x hx1
    have b1 := vb_len (Int.toNat (i : Int)) (by rw [Int.toNat_natCast]; omega)
    have b2 := vb_len p.h.m.toNat (by omega)
    have b3 := vb_len p.h.c.toNat (by omega)
    have b4 := vb_len p.h.p.toNat (by omega)
    have b5 := vb_len p.h.s.toNat (by omega)
    have b6 := vb_len p.h.a.toNat (by omega)
    omega)
  rw [nmA_len] at a4
  have c1 : ps.length * 100010 ≤ 1000 * 100010 := Nat.mul_le_mul_right _ hpl
  have c2 : F.length * 100070 ≤ 1000 * 100070 := Nat.mul_le_mul_right _ hF
  omega
/-- Heads that came in. -/
def Hd.fits (x : Hd) : Prop := (-9223372036854775808 ≤ x.m ∧ x.m ≤ 9223372036854775807) ∧ (0 ≤ x.c ∧ x.c ≤ 4294967295) ∧ (-9223372036854775808 ≤ x.p ∧ x.p ≤ 9223372036854775807) ∧ (-9223372036854775808 ≤ x.s ∧ x.s ≤ 9223372036854775807) ∧ (-9223372036854775808 ≤ x.a ∧ x.a ≤ 9223372036854775807) ∧ x.n.length ≤ 9223372036854775807
def IsHds (w : World) (a : Option Addr) (len cap : Nat) (l : List Hd) : Prop := l.length = len ∧ len ≤ 9223372036854775807 ∧ (∀ x ∈ l, x.fits) ∧ HV w (fun k => k < w.heap.size) (.slice a len cap) l
theorem Try.cellsHd : Try.prog.cellsOf 38 = 6 := by kernel_rfl
theorem mkB_of (s : ByteArray) : s = mkB s.data.toList := by cases s; rfl
set_option maxRecDepth 100000 in
theorem open_head {H : Type} {enc : TypeId × Value → H} {w : World} {base fuel : Nat} {cs : List Value} {y : DataW H × List MemPlace}
    (hlen : cs.length = 6) (h2 : DataW.trod enc Try.prog w base (fun _ => true) true fuel 38 cs = some y) : ∃ r : Hd, r.fits ∧ cs = hdC r := by
  obtain ⟨xs, k, hk, hxy, _, hxl, hf⟩ := DataW.trod_struct Try.underlying38 h2
  match cs, hlen with
  | [v0, v1, v2, v3, v4, v5], _ =>
    have hxl' : xs.length = 6 := hxl
    have g0 : DataW.trod enc Try.prog w base (fun _ => true) true k 9 (([v0, v1, v2, v3, v4, v5].drop 0).take (Try.prog.cellsOf 9)) = xs[0]? := hf 0 _ rfl
    have g1 : DataW.trod enc Try.prog w base (fun _ => true) true k 3 (([v0, v1, v2, v3, v4, v5].drop 1).take (Try.prog.cellsOf 3)) = xs[1]? := hf 1 _ rfl
    have g2 : DataW.trod enc Try.prog w base (fun _ => true) true k 36 (([v0, v1, v2, v3, v4, v5].drop 2).take (Try.prog.cellsOf 36)) = xs[2]? := hf 2 _ rfl
    have g3 : DataW.trod enc Try.prog w base (fun _ => true) true k 3 (([v0, v1, v2, v3, v4, v5].drop 3).take (Try.prog.cellsOf 3)) = xs[3]? := hf 3 _ rfl
    have g4 : DataW.trod enc Try.prog w base (fun _ => true) true k 3 (([v0, v1, v2, v3, v4, v5].drop 4).take (Try.prog.cellsOf 3)) = xs[4]? := hf 4 _ rfl
    have g5 : DataW.trod enc Try.prog w base (fun _ => true) true k 3 (([v0, v1, v2, v3, v4, v5].drop 5).take (Try.prog.cellsOf 3)) = xs[5]? := hf 5 _ rfl
    rw [List.getElem?_eq_getElem (by omega), show Try.prog.cellsOf 3 = 1 by kernel_rfl] at g1 g3 g4 g5
    rw [List.getElem?_eq_getElem (by omega), show Try.prog.cellsOf 36 = 1 by kernel_rfl] at g2
    rw [List.getElem?_eq_getElem (by omega), show Try.prog.cellsOf 9 = 1 by kernel_rfl] at g0
    simp only [List.drop_zero, List.drop_succ_cons, List.take_succ_cons, List.take_zero] at g0 g1 g2 g3 g4 g5
    obtain ⟨s0, e0, _, w0⟩ := DataW.trod_string Try.underlying9 g0
    obtain ⟨n1, e1, _, w1⟩ := DataW.trod_int Try.underlying3 g1
    obtain ⟨n2, e2, _, w2⟩ := DataW.trod_int Try.underlying36 g2
    obtain ⟨n3, e3, _, w3⟩ := DataW.trod_int Try.underlying3 g3
    obtain ⟨n4, e4, _, w4⟩ := DataW.trod_int Try.underlying3 g4
    obtain ⟨n5, e5, _, w5⟩ := DataW.trod_int Try.underlying3 g5
    have b1 := bounds_i64 w1
    have b2 := bounds_u32 w2
    have b3 := bounds_i64 w3
    have b4 := bounds_i64 w4
    have b5 := bounds_i64 w5
    unfold maxLen at w0
    simp only [List.cons.injEq, and_true] at e0 e1 e2 e3 e4 e5
    subst e0 e1 e2 e3 e4 e5
    have z0 : s0.data.toList.length = s0.size := by simp
    refine ⟨⟨s0.data.toList, n1, n2, n3, n4, n5⟩, ⟨b1, ⟨b2.1, by show n2 ≤ _; omega⟩, b3, b4, b5, by show s0.data.toList.length ≤ _; omega⟩, ?_⟩
    simp only [hdC, ← mkB_of]
set_option maxRecDepth 100000 in
theorem open_heads {H : Type} {enc : TypeId × Value → H} {w : World} {base : Nat} {a : Option Addr} {len cap : Nat} {d : DataW H} {p : List MemPlace}
    (h : DataW.Trod enc Try.prog w base (fun _ => true) true 32 (.slice a len cap) d p) : ∃ l, IsHds w a len cap l := by
  obtain ⟨fuel, hf⟩ := h
  rcases Go.Deep.open_slice Try.underlying32 hf with ⟨hcs, _⟩ | ⟨x, l, c, m, n, D, Pl, hcs, hb, hl, hm, hmm, _, hx⟩
  · simp [Value.cells] at hcs
    obtain ⟨rfl, rfl, rfl⟩ := hcs
    exact ⟨[], rfl, by omega, fun x hx => (by cases hx), none, 0, rfl, Nat.le_refl _, fun h => absurd rfl h⟩
  · simp [Value.cells] at hcs
    obtain ⟨rfl, rfl, rfl⟩ := hcs
    simp only [if_true] at hmm
    subst hmm
    unfold maxLen at hm
    have each : ∀ i, i < len → ∃ R : Hd, R.fits ∧ ∀ j v, (hdC R)[j]? = some v → w.cell? (x.add (i * 6 + j)) = some v := by
      intro i hi
      obtain ⟨cs', h1, h2⟩ := hx i (by omega)
      rw [Try.cellsHd] at h1
      obtain ⟨_, hlen, hcell⟩ := World.cells?_some h1
      obtain ⟨r, r1, r3⟩ := open_head hlen h2
      refine ⟨r, r1, fun j v hv => ?_⟩
      have hj : j < 6 := by have := (List.getElem?_eq_some_iff.1 hv).1; simpa [hdC] using this
      have hc := hcell j hj
      rw [Go.Deep.add_add] at hc
      rw [hc, r3]
      exact hv
    obtain ⟨A, hA⟩ := Go.Deep.choose_lt each
    have hlen : ((List.range len).map A).length = len := by simp
    refine ⟨(List.range len).map A, hlen, by omega, fun y hy => ?_, some x, m, by rw [hlen], by rw [hlen]; exact hl, fun hne => ?_⟩
    · obtain ⟨i, hi, rfl⟩ := List.mem_map.1 hy
      exact (hA i (List.mem_range.1 hi)).1
    · have h0 : 0 < len := by
        rcases Nat.eq_zero_or_pos len with e | e
        · subst e; simp at hne
        · exact e
      obtain ⟨b, o, s⟩ := x
      have hs : s = none := by
        have c0 : w.cell? ⟨b, o, s⟩ = some _ := (hA 0 h0).2 0 _ rfl
        cases s with
        | none => rfl
        | some s => unfold World.cell? at c0; split at c0 <;> simp at c0
      subst hs
      have hcell : ∀ j u, (hdsC ((List.range len).map A))[j]? = some u → w.cell? ⟨b, o + j, none⟩ = some u := fun j u hu => by
        have hj := (List.getElem?_eq_some_iff.1 hu).1
        rw [hdsC_len, hlen] at hj
        have h5 : j / 6 < len := by omega
        have hx5 : ((List.range len).map A)[j / 6]? = some (A (j / 6)) := by rw [List.getElem?_map, List.getElem?_range h5]; rfl
        have e := hdsC_at _ _ _ hx5 (j % 6) (by omega)
        rw [show j / 6 * 6 + j % 6 = j by omega, hu] at e
        have := (hA (j / 6) h5).2 (j % 6) u e.symm
        rw [show j / 6 * 6 + j % 6 = j by omega, Addr.add_mid] at this
        exact this
      have hbl : b < w.heap.size := World.block_lt_of_cell? _ _ (hcell 0 _ (List.getElem?_eq_getElem (by rw [hdsC_len, hlen]; omega)))
      exact ⟨b, o, rfl, hbl, hbl, hcell⟩
end Go.Proofs.Ytpfjcdfhlcnlcaa
