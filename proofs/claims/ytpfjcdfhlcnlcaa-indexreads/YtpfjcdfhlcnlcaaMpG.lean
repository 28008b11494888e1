/- A map by texts in memory, whatever stands in it. -/
import Derived.Test.YtpfjcdfhlcnlcaaAsM
import Derived.Test.YtpfjcdfhlcnlcaaStrR
import Derived.Test.YtpfjcdfhlcnlcaaProg
import Derived.Maps.OwnSet
import Derived.Maps.RangeWalk
import Derived.Sort.KeysCollected
namespace Go.Proofs.Ytpfjcdfhlcnlcaa
open Go.RowKit Go.Maps
set_option linter.unusedVariables false
set_option linter.unusedSimpArgs false

/-- How what stands in a map lies there and reads. -/
structure El (α : Type) where
  ev : α → Value
  dv : α → DataW Unit
  el : Value → Option (DataW Unit × List MemPlace)
  el_ev : ∀ a, el (ev a) = some (dv a, [])
  el_some : ∀ {v : Value} {y : DataW Unit × List MemPlace}, el v = some y → ∃ a, v = ev a ∧ y.1 = dv a
  dinj : ∀ {a b : α}, dv a = dv b → a = b
variable {α : Type}
theorem El.el_inv (E : El α) {v : Value} {a : α} {ps : List MemPlace} (h : E.el v = some (E.dv a, ps)) : v = E.ev a := by
  obtain ⟨b, hb, hy⟩ := E.el_some h
  rw [hb, E.dinj hy]
theorem El.vinj (E : El α) {a b : α} (h : E.ev a = E.ev b) : a = b := by
  have h1 := E.el_ev a
  rw [h, E.el_ev b] at h1
  exact E.dinj (congrArg Prod.fst (Option.some.inj h1)).symm
theorem keyT : Keyed Try.prog 9 := string_keyed Try.underlying9
theorem keyB (x : List UInt8) (hx : x.length ≤ 9223372036854775807) : keyOf Try.prog 9 (.string (mkB x)) = some (.string x) :=
  WideMaps.keyOf_string_mk Try.underlying9 (by rw [mkB_size]; unfold maxLen; omega)
theorem isKeyT (x : List UInt8) : WideAt.IsKeyLit (.string x) := trivial
theorem strT_ne {x y : List UInt8} (h : x ≠ y) : (Lit.string x) ≠ .string y := fun e => h (by injection e)
/-- Block b is a map. -/
def GM (E : El α) (z : α) (w : World) (b : Nat) (F : As α) : Prop :=
  ∃ D : DataW Unit, w.ownsMap Try.prog 9 E.el b F.length D ∧ KdA F ∧ (∀ x, Maps.has D (.string x) = (lkA F x).isSome) ∧ ∀ x, D.atKey (.string x) (E.dv z) = E.dv ((lkA F x).getD z)
section
variable {E : El α} {z : α} {w w' : World} {b n : Nat} {F : As α} {D : DataW Unit}
theorem GM.kd (h : GM E z w b F) : KdA F := by obtain ⟨D, _, h, _⟩ := h; exact h
theorem GM.lt (h : GM E z w b F) : b < w.heap.size := by obtain ⟨D, h, _⟩ := h; exact h.lt
theorem GM.kept (h : GM E z w b F) (hb : w'.heap[b]? = w.heap[b]?) : GM E z w' b F := by
  obtain ⟨D, ⟨es, clock, h1, h2⟩, h3⟩ := h
  exact ⟨D, ⟨es, clock, hb.trans h1, h2⟩, h3⟩
theorem GM.isMap (h : GM E z w b F) : ∃ es c, w.heap[b]? = some (.map es c) := by
  obtain ⟨D, ⟨es, clock, h1, h2⟩, h3⟩ := h
  exact ⟨es, clock, h1⟩
theorem keysG_perm (h : w.ownsMap Try.prog 9 E.el b n D) (hk : KdA F) (hh : ∀ x, Maps.has D (.string x) = (lkA F x).isSome) : (F.map (·.1)).Perm (strKeys D) := by
  obtain ⟨es, hD, hpw, _⟩ := h.entries keyT
  obtain ⟨es', hD', hko⟩ := h.keysOf
  obtain rfl : es = es' := by rw [hD] at hD'; simpa using hD'
  subst hD
  refine perm_strKeys hpw (fun p hp => by obtain ⟨v, hv⟩ := hko p hp; obtain ⟨x, _, hx, _⟩ := Maps.keyOf_str Try.underlying9 hv; exact ⟨x, hx⟩) hk (fun x => ?_)
  rw [hh x, lkA_isSome]
theorem size_keysG (D : DataW Unit) (h : IsMap D) : Maps.size D = (strKeys D).length := by obtain ⟨es, rfl⟩ := h; simp [Maps.size, strKeys]
theorem GM.mk' (h : w.ownsMap Try.prog 9 E.el b n D) (hk : KdA F) (hh : ∀ x, Maps.has D (.string x) = (lkA F x).isSome) (ha : ∀ x, D.atKey (.string x) (E.dv z) = E.dv ((lkA F x).getD z)) : GM E z w b F := by
  have hp := keysG_perm h hk hh
  have hs : Maps.size D = F.length := by rw [size_keysG D h.isMap, ← hp.length_eq, List.length_map]
  refine ⟨D, ?_, hk, hh, ha⟩
  obtain ⟨es, clock, h1, h2, h3, rfl⟩ := h
  refine ⟨es, clock, h1, h2, ?_, rfl⟩
  rw [← hs]
  simp [Maps.size, length_sorted]
theorem GM.new (E : El α) (z : α) (w : World) : GM E z (w.alloc (.map #[] 0)) w.heap.size [] :=
  ⟨.map [], World.ownsMap_made w _ _ _, KdA.nil, fun x => by simp [Maps.has, lkA_nil], fun x => rfl⟩
/-- A new text is put in. -/
theorem GM.put {T e : TypeId} (h : GM E z w b F) (hT : Try.prog.underlying T = some (.map 9 e)) (hn : F.length < 9223372036854775807) (x : List UInt8) (hx : x.length ≤ 9223372036854775807) (a : α) (hnew : lkA F x = none) :
    ∃ w', (Instr.mapUpdate T (.map (some b)) (.string (mkB x)) (E.ev a)).run Try.prog w = .ok () w' ∧ GM E z w' b (F ++ [(x, a)]) ∧ w.mapTurned w' b := by
  obtain ⟨D, h1, h2, h3, h4⟩ := h
  obtain ⟨w', r1, r2, r3⟩ := h1.store keyT hT (by unfold maxLen; omega) (keyB x hx) (E.el_ev a)
  refine ⟨w', r1, GM.mk' r2 (h2.snoc hnew) (fun y => ?_) (fun y => ?_), r3⟩
  · by_cases e : y = x
    · subst e; rw [has_put_same h1.isMap (isKeyT y), lkA_app, hnew, lkA_cons, if_pos rfl]; rfl
    · rw [has_put_other (strT_ne e), lkA_app, lkA_cons, if_neg (fun h => e h.symm), lkA_nil, h3 y]; cases lkA F y <;> rfl
  · by_cases e : y = x
    · subst e; rw [atKey_put_same h1.isMap (isKeyT y), lkA_app, hnew, lkA_cons, if_pos rfl]; rfl
    · rw [atKey_put_other (strT_ne e), lkA_app, lkA_cons, if_neg (fun h => e h.symm), lkA_nil, h4 y]; cases lkA F y <;> rfl
theorem GM.look {T e : TypeId} (h : GM E z w b F) (hT : Try.prog.underlying T = some (.map 9 e)) (hz : (zeroValue e).run Try.prog w = .ok (E.ev z) w) (x : List UInt8) (hx : x.length ≤ 9223372036854775807) :
    (Instr.lookup T (.map (some b)) (.string (mkB x)) true).run Try.prog w = .ok (.tuple #[E.ev ((lkA F x).getD z), .bool (lkA F x).isSome]) w := by
  obtain ⟨D, h1, h2, h3, h4⟩ := h
  obtain ⟨v, ps, hrun, hv⟩ := h1.look_ok keyT hT hz (E.el_ev z) (keyB x hx)
  rw [h4 x] at hv
  rw [h3 x, E.el_inv hv] at hrun
  exact hrun
theorem GM.look1 {T e : TypeId} (h : GM E z w b F) (hT : Try.prog.underlying T = some (.map 9 e)) (hz : (zeroValue e).run Try.prog w = .ok (E.ev z) w) (x : List UInt8) (hx : x.length ≤ 9223372036854775807) :
    (Instr.lookup T (.map (some b)) (.string (mkB x)) false).run Try.prog w = .ok (E.ev ((lkA F x).getD z)) w := by
  obtain ⟨D, h1, h2, h3, h4⟩ := h
  obtain ⟨v, ps, hrun, hv⟩ := h1.lookup keyT hT hz (E.el_ev z) (keyB x hx)
  rw [h4 x] at hv
  rw [E.el_inv hv] at hrun
  exact hrun
end
/-- The step of a range over a map. -/
theorem wpList_next_GM {E : El α} {z : α} (w : World) {ops : Array Oper} {rest : List Oper} {o : Oper} {a : Act} {Q : Exit → Act → World → Prop} (hg : o.guard = none) (it : Operand) (hop : o.op = Op.next it false) (b r n : Nat) (F : As α) (D : DataW Unit)
    (hD : ∀ x, D.atKey (.string x) (E.dv z) = E.dv ((lkA F x).getD z)) (hH : ∀ x, Maps.has D (.string x) = (lkA F x).isSome) (left : Lit → Bool) (cnt : Nat)
    (hit : a.eval it = .pointer (some ⟨r, 0, none⟩)) (h : w.ranges Try.prog 9 E.el b r n D left cnt)
    (hDone : cnt = 0 → (∀ kl, left kl = false) → wpList Try.prog ops Q rest (a.put o.dst (.tuple #[.bool false])) w)
    (hMore : ∀ (x : List UInt8) (g : α) (w' : World) (cnt' : Nat), lkA F x = some g → left (.string x) = true → (∀ zd, D.atKey (.string x) zd = E.dv g) → w'.ranges Try.prog 9 E.el b r n D (fun z => left z && !z.sameKey (.string x)) cnt' → cnt' < cnt →
      w.grownBy w' (some r) → w'.heap.size = w.heap.size → (Instr.entry (.pointer (some ⟨r, 0, none⟩))).run Try.prog w' = .ok (.tuple #[.string (mkB x), E.ev g]) w' → wpList Try.prog ops Q rest (a.put o.dst (.tuple #[.bool true, .string (mkB x), E.ev g])) w') :
    wpList Try.prog ops Q (o :: rest) a w := by
  refine wpList_next_ranges w hg it hop 9 keyT E.el encStr E.ev (fun key kl hk => by obtain ⟨x, hx, _⟩ := Maps.keyOf_str Try.underlying9 hk; exact ⟨x, hx⟩) (fun v y hv => by obtain ⟨c, hc, _⟩ := E.el_some hv; exact ⟨c, hc⟩) b r n D left cnt hit h hDone ?_
  intro x c kl y w' cnt' hkey hlk hv hat hrg hlt hgr hsz hen
  obtain ⟨x', ex, rfl, _⟩ := Maps.keyOf_str Try.underlying9 hkey
  obtain rfl : x = x' := encStr_inj ex
  have hhas : Maps.has D (.string x) = true := has_true_of_atKey hat
  rw [hH x] at hhas
  obtain ⟨g, hg'⟩ := Option.isSome_iff_exists.1 hhas
  have h1 := hat (E.dv z)
  rw [hD x, hg'] at h1
  obtain ⟨c', hc', hy⟩ := E.el_some hv
  have h2 : E.dv g = E.dv c' := by rw [show E.dv g = E.dv ((some g).getD z) from rfl, h1, hy]
  have h3 : c = c' := E.vinj hc'
  rw [← E.dinj h2] at h3
  subst h3
  exact hMore x c w' cnt' hg' hlk (fun zd => by rw [hat zd, ← h1]; rfl) hrg hlt hgr hsz hen
theorem nodup_leG {β : Type} [BEq β] [LawfulBEq β] : ∀ {l m : List β}, l.Nodup → (∀ x ∈ l, x ∈ m) → l.length ≤ m.length
  | [], _, _, _ => Nat.zero_le _
  | a :: l, m, hn, hs => by
    rw [List.nodup_cons] at hn
    have h1 : ∀ x ∈ l, x ∈ m.erase a := fun x hx => (List.mem_erase_of_ne (fun e => hn.1 (by rw [← e]; exact hx))).2 (hs x (List.mem_cons_of_mem _ hx))
    have h2 := nodup_leG hn.2 h1
    have h3 := List.length_erase_of_mem (hs a List.mem_cons_self)
    have h4 : 0 < m.length := List.length_pos_of_mem (hs a List.mem_cons_self)
    simp only [List.length_cons]; omega
end Go.Proofs.Ytpfjcdfhlcnlcaa
