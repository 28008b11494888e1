/- Contracts: an index's Find; number, text. -/
import Derived.Test.YtpfjcdfhlcnlcaaIdxA
import Derived.Test.YtpfjcdfhlcnlcaaVar
import Derived.Laws.ResultCell
import Derived.Laws.Rows
namespace Go.Proofs.Ytpfjcdfhlcnlcaa
open Go.RowKit Go.Maps
set_option linter.unusedVariables false
set_option linter.unusedSimpArgs false

/-- A map, or none. -/
def GO {α : Type} (E : El α) (z : α) (w : World) (m : Option Nat) (F : As α) : Prop := (m = none ∧ F = []) ∨ ∃ b, m = some b ∧ GM E z w b F
section
variable {α : Type} {E : El α} {z : α} {w w' : World} {m : Option Nat} {F : As α} {T e : TypeId}
theorem GO.below (h : GO E z w m F) (hb : Below w.heap.size w w') : GO E z w' m F := by
  rcases h with h | ⟨b, h1, h2⟩
  · exact .inl h
  · exact .inr ⟨b, h1, h2.kept (hb.block _ h2.lt)⟩
theorem GO.look (h : GO E z w m F) (hT : Try.prog.underlying T = some (.map 9 e)) (hz : (zeroValue e).run Try.prog w = .ok (E.ev z) w) (x : List UInt8) (hx : x.length ≤ 9223372036854775807) :
    (Instr.lookup T (.map m) (.string (mkB x)) true).run Try.prog w = .ok (.tuple #[E.ev ((lkA F x).getD z), .bool (lkA F x).isSome]) w := by
  rcases h with ⟨rfl, rfl⟩ | ⟨b, rfl, h⟩
  · exact Maps.look_nil true keyT hT hz (keyB x hx)
  · exact h.look hT hz x hx
theorem GO.look1 (h : GO E z w m F) (hT : Try.prog.underlying T = some (.map 9 e)) (hz : (zeroValue e).run Try.prog w = .ok (E.ev z) w) (x : List UInt8) (hx : x.length ≤ 9223372036854775807) :
    (Instr.lookup T (.map m) (.string (mkB x)) false).run Try.prog w = .ok (E.ev ((lkA F x).getD z)) w := by
  rcases h with ⟨rfl, rfl⟩ | ⟨b, rfl, h⟩
  · exact Maps.look_nil false keyT hT hz (keyB x hx)
  · exact h.look1 hT hz x hx
theorem GO.len (h : GO E z w m F) (hT : Try.prog.underlying T = some (.map 9 e)) (ty : TypeId) : (Builtin.len_ #[T] ty #[.map m]).run Try.prog w = .ok (.int .i64 (F.length : Int)) w := by
  rcases h with ⟨rfl, rfl⟩ | ⟨b, rfl, h⟩
  · exact Maps.len_nil hT ty
  · exact h.len hT ty
end
/-- An index that is looked at. -/
structure IXo (w : World) (x : Nat) (m1 m2 : Option Nat) (ps : List (List UInt8)) (F : As Pl) : Prop where
  cell : w.heap[x]? = some (.cells #[.map m1, .map m2] 27 (0, 0))
  g1 : GO EN 0 w m1 (pkA ps)
  g2 : GO EP plZ w m2 F
theorem IX.o {w : World} {x : Nat} {K : Nat → Prop} {ps : List (List UInt8)} {F : As Pl} (h : IX w x K ps F) : ∃ m1 m2, IXo w x m1 m2 ps F := by
  rcases h with ⟨b1, b2, h⟩ | ⟨h1, h2, h3, rfl, rfl⟩
  · exact ⟨_, _, h.cell, .inr ⟨_, rfl, h.m1⟩, .inr ⟨_, rfl, h.m2⟩⟩
  · exact ⟨_, _, h3, .inl ⟨rfl, rfl⟩, .inl ⟨rfl, rfl⟩⟩
section
variable {w w' : World} {x : Nat} {m1 m2 : Option Nat} {ps : List (List UInt8)} {F : As Pl}
theorem IXo.lt (h : IXo w x m1 m2 ps F) : x < w.heap.size := (Array.getElem?_eq_some_iff.1 h.cell).1
theorem IXo.below (h : IXo w x m1 m2 ps F) (hb : Below w.heap.size w w') : IXo w' x m1 m2 ps F := ⟨(hb.block _ h.lt).trans h.cell, h.g1.below hb, h.g2.below hb⟩
theorem IXo.c0 (h : IXo w x m1 m2 ps F) : w.cell? ⟨x, 0, none⟩ = some (.map m1) := (cell_of_row _ _ _ _ _ _ h.cell).trans rfl
theorem IXo.c1 (h : IXo w x m1 m2 ps F) : w.cell? ⟨x, 1, none⟩ = some (.map m2) := (cell_of_row _ _ _ _ _ _ h.cell).trans rfl
end
theorem results_row_tmp {P : Program} {fn : Func} {p u : Tmp} {ty : TypeId} (h : fn.results = #[.cell p ty, .tmp u]) (tmps : Array Value) (w : World) (g : Nat) (t : TypeId) (cs : Array Value) (fr : Nat × Nat) (d : TypeDesc)
    (hp : tmps.getD p undef = .pointer (some ⟨g, 0, none⟩)) (hg : w.heap[g]? = some (.cells cs t fr))
    (hu : P.underlying ty = some d) (hd : (match d with | .struct _ | .array _ _ => true | _ => false) = true) (hi : (P.info? ty).map (·.size) = some cs.size) :
    (results fn tmps).run P w = .ok (.tuple #[.agg cs, tmps.getD u undef]) w := by
  rw [results_cell_tmp h, hp]
  simp [asAddr, run_loadVar_row w g t ty cs fr d hg hu hd hi, Result.andThen]
set_option maxRecDepth 100000 in
set_option maxHeartbeats 1000000 in
theorem find_any {x : Nat} {m1 m2 : Option Nat} {ps : List (List UInt8)} {F : As Pl} (q : List UInt8) (w : World) (h : IXo w x m1 m2 ps F) (hq : q.length ≤ 9223372036854775807) :
    Calls Try.prog 8 #[.pointer (some ⟨x, 0, none⟩), .string (mkB q)] w fun e w' => e = .returned (.tuple #[plV ((lkA F q).getD plZ), .bool (lkA F q).isSome]) ∧ Below w.heap.size w w' := by
  have hzp := zeroPl
  have hx := h.lt
  have c1 := h.c1
  obtain ⟨W1, hW1⟩ : ∃ W1, W1 = w.alloc (.cells #[.string ⟨#[]⟩, .string ⟨#[]⟩, .int .i64 0, .int .u32 0, .int .i64 0, .int .i64 0, .int .i64 0] 43) := ⟨_, rfl⟩
  have hb1 : Below w.heap.size w W1 := by rw [hW1]; exact (Below.refl _ w).alloc (Nat.le_refl _) _
  have hlk := (h.below hb1).g2.look Try.underlying25 (zeroPl _) q hq
  rw [EP_ev] at hlk
  rw [hW1] at hlk
  generalize (lkA F q).getD plZ = pp at *
  generalize (lkA F q).isSome = tb at *
  unfold plV at hlk ⊢
  obtain ⟨kk, nn, mm, cc, pq, ss, aa⟩ := pp
  dsimp only at hlk ⊢
  clear h hb1 hW1
  go_enter Try.func8, Try.ntmps8
  go_wp2
  exact bodyPost_ret (results_row_tmp rfl _ _ w.heap.size 43 _ (0, 0) _ rfl ((Below.heap_alloc _ _ _ (by simp)).trans (heap_alloc_new _ _)) Try.underlying43 rfl (by kernel_rfl)) rfl ⟨rfl, ((Below.refl _ w).alloc (Nat.le_refl _) _).alloc (by simp) _⟩
theorem bs_vb (x : Nat) : bs (varN x) = mkB (vb x) := by
  unfold bs strOfNums mkB vb
  congr 1
  apply Array.toList_inj.1
  simp
theorem vb_len (x : Nat) (h : x < 18446744073709551616) : (vb x).length ≤ 10 := by unfold vb; rw [List.length_map]; exact varN_len64 h
theorem catB (a b : List UInt8) : mkB a ++ mkB b = mkB (a ++ b) := by
  apply mkB_inj
  simp [ByteArray.data_append, mkB]
set_option maxRecDepth 100000 in
set_option maxHeartbeats 400000 in
theorem inum_any (x : Nat) (w : World) (hx : x ≤ 9223372036854775807) :
    Calls Try.prog 24 #[.int .i64 (x : Int)] w fun e w' => e = .returned (.string (mkB (vb x))) ∧ Below w.heap.size w w' := by
  have HV : Hid (Calls _ _ _ _ _) := var_any (x : Int) w (by omega) (by omega)
  unfold Hid at HV
  rw [Int.toNat_natCast, bs_vb] at HV
  have h1 : (0 : Int) ≤ (x : Int) := by omega
  have h2 : (x : Int) ≤ 9223372036854775807 := by omega
  go_enter Try.func24, Try.ntmps24
  go_wp2_with fail
  refine (HV : Calls _ _ _ _ _).mono ?_
  rintro e w1 ⟨rfl, hb⟩
  go_wp2
  go_ret
  exact ⟨rfl, hb⟩
set_option maxRecDepth 100000 in
set_option maxHeartbeats 400000 in
theorem itext_any (a : List UInt8) (w : World) (ha : a.length ≤ 140737488351232) :
    Calls Try.prog 25 #[.string (mkB a)] w fun e w' => e = .returned (.string (mkB (txB a))) ∧ Below w.heap.size w w' := by
  have hz := mkB_size a
  have hz2 := mkB_size (vb a.length)
  have hl := vb_len a.length (by omega)
  have hc := catB (vb a.length) a
  unfold txB
  go_enter Try.func25, Try.ntmps25
  go_wp2_with fail
  refine (inum_any a.length _ (by omega)).mono ?_
  rintro e w1 ⟨rfl, hb⟩
  go_wp2
  go_ret
  exact ⟨rfl, hb⟩
end Go.Proofs.Ytpfjcdfhlcnlcaa
