/- A disk in memory. -/
import Derived.Test.YtmjfcneofpddiaaDoorQDskM
import Derived.Test.YtmjfcneofpddiaaDoorQKeep
import Derived.Test.YtmjfcneofpddiaaDoorProg
import Derived.Maps.OwnSet
import Derived.Maps.RangeWalk
import Derived.Sort.KeysCollected
namespace Go.Proofs.YtmjfcneofpddiaaDoor
open Go.RowKit Go.Maps
set_option linter.unusedVariables false
set_option linter.unusedSimpArgs false

/-- The text of these bytes. -/
def mkT (l : List UInt8) : ByteArray := ⟨l.toArray⟩
theorem mkT_size (l : List UInt8) : (mkT l).size = l.length := by show l.toArray.size = _; simp
/-- These bytes as cells. -/
def cb (l : List UInt8) : List Value := l.map fun c => Value.int .u8 c.toNat
theorem cb_len (l : List UInt8) : (cb l).length = l.length := by simp [cb]
theorem cb_app (a b : List UInt8) : cb (a ++ b) = cb a ++ cb b := by simp [cb]
theorem cb_str (l : List UInt8) : Lib.strCells (mkT l) = cb l := by
  unfold Lib.strCells mkT cb; simp

/-- How a pointer to a file reads. -/
def ptrElem : Value → Option (DataW Unit × List MemPlace)
  | .pointer (some ⟨g, 0, none⟩) => some (.lit (.int .i64 g), [])
  | .pointer none => some (.lit (.int .i64 (-1)), [])
  | _ => none
def gD : Option Nat → DataW Unit
  | some g => .lit (.int .i64 g)
  | none => .lit (.int .i64 (-1))
def gV : Option Nat → Value
  | some g => .pointer (some ⟨g, 0, none⟩)
  | none => .pointer none
theorem ptrElem_gV (o : Option Nat) : ptrElem (gV o) = some (gD o, []) := by cases o <;> rfl
theorem gD_inj {a b : Option Nat} (h : gD a = gD b) : a = b := by
  cases a <;> cases b <;> simp [gD] at h ⊢
  · omega
theorem ptrElem_inv {v : Value} {o : Option Nat} {ps : List MemPlace} (h : ptrElem v = some (gD o, ps)) : v = gV o := by
  unfold ptrElem at h
  split at h
  · rename_i g
    have h1 : gD (some g) = gD o := congrArg Prod.fst (Option.some.inj h)
    rw [← gD_inj h1]; rfl
  · have h1 : gD none = gD o := congrArg Prod.fst (Option.some.inj h)
    rw [← gD_inj h1]; rfl
  · cases h
theorem ptrElem_some {v : Value} {y : DataW Unit × List MemPlace} (h : ptrElem v = some y) : ∃ o, v = gV o ∧ y.1 = gD o := by
  unfold ptrElem at h
  split at h
  · rename_i g; cases h; exact ⟨some g, rfl, rfl⟩
  · cases h; exact ⟨none, rfl, rfl⟩
  · cases h

theorem keyS : Keyed Tryd.prog 9 := string_keyed Tryd.underlying9
theorem zeroF (w : World) : (zeroValue 67).run Tryd.prog w = .ok (gV none) w := by kernel_rfl
theorem keyX (x : List UInt8) (hx : x.length ≤ 9223372036854775807) : keyOf Tryd.prog 9 (.string (mkT x)) = some (.string x) :=
  WideMaps.keyOf_string_mk Tryd.underlying9 (by rw [mkT_size]; unfold maxLen; omega)

/-- Block b is a folder. -/
def FM (w : World) (b : Nat) (F : Fo) : Prop :=
  ∃ D : DataW Unit, w.ownsMap Tryd.prog 9 ptrElem b F.length D ∧ Kd F ∧ (∀ x, Maps.has D (.string x) = (lk F x).isSome) ∧ ∀ x, D.atKey (.string x) (gD none) = gD (lk F x)
theorem FM.kd {w : World} {b : Nat} {F : Fo} (h : FM w b F) : Kd F := by obtain ⟨D, _, h, _⟩ := h; exact h
theorem FM.lt {w : World} {b : Nat} {F : Fo} (h : FM w b F) : b < w.heap.size := by obtain ⟨D, h, _⟩ := h; exact h.lt
theorem FM.kept {w w' : World} {b : Nat} {F : Fo} (h : FM w b F) (hb : w'.heap[b]? = w.heap[b]?) : FM w' b F := by
  obtain ⟨D, ⟨es, clock, h1, h2⟩, h3⟩ := h
  exact ⟨D, ⟨es, clock, hb.trans h1, h2⟩, h3⟩
theorem FM.isMap {w : World} {b : Nat} {F : Fo} (h : FM w b F) : ∃ es c, w.heap[b]? = some (.map es c) := by
  obtain ⟨D, ⟨es, clock, h1, h2⟩, h3⟩ := h
  exact ⟨es, clock, h1⟩
theorem keys_perm {w : World} {b n : Nat} {F : Fo} {D : DataW Unit} (h : w.ownsMap Tryd.prog 9 ptrElem b n D) (hk : Kd F) (hh : ∀ x, Maps.has D (.string x) = (lk F x).isSome) : (F.map (·.1)).Perm (strKeys D) := by
  obtain ⟨es, hD, hpw, _⟩ := h.entries keyS
  obtain ⟨es', hD', hko⟩ := h.keysOf
  obtain rfl : es = es' := by rw [hD] at hD'; simpa using hD'
  subst hD
  refine perm_strKeys hpw (fun p hp => by obtain ⟨v, hv⟩ := hko p hp; obtain ⟨x, _, hx, _⟩ := Maps.keyOf_str Tryd.underlying9 hv; exact ⟨x, hx⟩) hk (fun x => ?_)
  rw [hh x]
  cases hl : lk F x with
  | none => rw [lk_none_iff] at hl; simp [hl]
  | some g => simp; exact ⟨g, lk_some_mem hl⟩
theorem size_keys (D : DataW Unit) (h : IsMap D) : Maps.size D = (strKeys D).length := by obtain ⟨es, rfl⟩ := h; simp [Maps.size, strKeys]
theorem FM.mk {w : World} {b n : Nat} {F : Fo} {D : DataW Unit} (h : w.ownsMap Tryd.prog 9 ptrElem b n D) (hk : Kd F) (hh : ∀ x, Maps.has D (.string x) = (lk F x).isSome) (ha : ∀ x, D.atKey (.string x) (gD none) = gD (lk F x)) : FM w b F := by
  have hp := keys_perm h hk hh
  have hs : Maps.size D = F.length := by rw [size_keys D h.isMap, ← hp.length_eq, List.length_map]
  refine ⟨D, ?_, hk, hh, ha⟩
  obtain ⟨es, clock, h1, h2, h3, rfl⟩ := h
  refine ⟨es, clock, h1, h2, ?_, rfl⟩
  rw [← hs]
  simp [Maps.size, length_sorted]
theorem isKey (x : List UInt8) : WideAt.IsKeyLit (.string x) := trivial
theorem str_ne {x y : List UInt8} (h : x ≠ y) : (Lit.string x) ≠ .string y := fun e => h (by injection e)
theorem FM.new (w : World) : FM (w.alloc (.map #[] 0)) w.heap.size [] :=
  ⟨.map [], World.ownsMap_made w _ _ _, Kd.nil, fun x => by simp [Maps.has, lk_nil], fun x => rfl⟩
theorem FM.put {w : World} {b : Nat} {F : Fo} (h : FM w b F) (hn : F.length < 9223372036854775807) (x : List UInt8) (hx : x.length ≤ 9223372036854775807) (g : Nat) :
    ∃ w', (Instr.mapUpdate 62 (.map (some b)) (.string (mkT x)) (.pointer (some ⟨g, 0, none⟩))).run Tryd.prog w = .ok () w' ∧ FM w' b (pt F x g) ∧ w.mapTurned w' b := by
  obtain ⟨D, h1, h2, h3, h4⟩ := h
  obtain ⟨w', r1, r2, r3⟩ := h1.store keyS Tryd.underlying62 (by unfold maxLen; omega) (keyX x hx) (ptrElem_gV (some g))
  refine ⟨w', r1, FM.mk r2 (h2.pt x g) (fun y => ?_) (fun y => ?_), r3⟩
  · by_cases e : y = x
    · subst e; rw [has_put_same h1.isMap (isKey y), lk_pt_same]; rfl
    · rw [has_put_other (str_ne e), lk_pt_other _ _ e]; exact h3 y
  · by_cases e : y = x
    · subst e; rw [atKey_put_same h1.isMap (isKey y), lk_pt_same]
    · rw [atKey_put_other (str_ne e), lk_pt_other _ _ e]; exact h4 y
theorem FM.del {w : World} {b : Nat} {F : Fo} (h : FM w b F) (x : List UInt8) (hx : x.length ≤ 9223372036854775807) (ty : TypeId) :
    ∃ w', (Builtin.delete_ #[62, 9] ty #[.map (some b), .string (mkT x)]).run Tryd.prog w = .ok (.tuple #[]) w' ∧ FM w' b (dl F x) ∧ w.mapTurned w' b := by
  obtain ⟨D, h1, h2, h3, h4⟩ := h
  obtain ⟨w', r1, r2, r3⟩ := h1.drop keyS Tryd.underlying62 (keyX x hx) ty
  refine ⟨w', r1, FM.mk r2 (h2.dl x) (fun y => ?_) (fun y => ?_), r3⟩
  · by_cases e : y = x
    · subst e; rw [has_del_same, lk_dl_same]; rfl
    · rw [has_del_other (str_ne e), lk_dl_other _ e]; exact h3 y
  · by_cases e : y = x
    · subst e; rw [atKey_del_same, lk_dl_same]
    · rw [atKey_del_other (str_ne e), lk_dl_other _ e]; exact h4 y
theorem FM.look {w : World} {b : Nat} {F : Fo} (h : FM w b F) (x : List UInt8) (hx : x.length ≤ 9223372036854775807) :
    (Instr.lookup 62 (.map (some b)) (.string (mkT x)) true).run Tryd.prog w = .ok (.tuple #[gV (lk F x), .bool (lk F x).isSome]) w := by
  obtain ⟨D, h1, h2, h3, h4⟩ := h
  obtain ⟨v, ps, hrun, hv⟩ := h1.look_ok keyS Tryd.underlying62 (zeroF w) (ptrElem_gV none) (keyX x hx)
  rw [h4 x] at hv
  rw [h3 x, ptrElem_inv hv] at hrun
  exact hrun
theorem FM.look1 {w : World} {b : Nat} {F : Fo} (h : FM w b F) (x : List UInt8) (hx : x.length ≤ 9223372036854775807) :
    (Instr.lookup 62 (.map (some b)) (.string (mkT x)) false).run Tryd.prog w = .ok (gV (lk F x)) w := by
  obtain ⟨D, h1, h2, h3, h4⟩ := h
  obtain ⟨v, ps, hrun, hv⟩ := h1.lookup keyS Tryd.underlying62 (zeroF w) (ptrElem_gV none) (keyX x hx)
  rw [h4 x] at hv
  rw [ptrElem_inv hv] at hrun
  exact hrun

theorem own_kept {w w' : World} {base : Nat} {e : TypeId} {s n : Nat} {v : Value} {xs : List Value} (h : w.ownsRow base e s v n xs) (hb : ∀ r, v.ownBlock = some r → w'.heap[r]? = w.heap[r]?) : w'.ownsRow base e s v n xs := by
  obtain ⟨h1, h2⟩ := h
  refine ⟨h1, ?_⟩
  rcases h2 with h2 | ⟨g, cap, cur, rfl, h3, h4, h5⟩
  · exact .inl h2
  · exact .inr ⟨g, cap, cur, rfl, h3, (hb g rfl).trans h4, h5⟩
theorem own_lt {w : World} {base : Nat} {e : TypeId} {s n : Nat} {v : Value} {xs : List Value} (h : w.ownsRow base e s v n xs) {r : Nat} (hr : v.ownBlock = some r) : r < w.heap.size ∧ ∃ cur, w.heap[r]? = some (.cells cur e (0, 0)) := by
  obtain ⟨h1, h2⟩ := h
  rcases h2 with ⟨rfl, _⟩ | ⟨g, cap, cur, rfl, h3, h4, h5⟩
  · cases hr
  · cases hr; exact ⟨(Array.getElem?_eq_some_iff.1 h4).1, cur, h4⟩

def stC (l : List Stp) : List Value := l.flatMap fun s => [.int .i64 s.what, .pointer (some ⟨s.g, 0, none⟩), .string (mkT s.nm), .string (mkT s.to)]

/-- A file in memory: block g, its bytes the row v. -/
structure FB (w : World) (K : Nat → Prop) (g : Nat) (f : List UInt8 × Nat) (v : Value) : Prop where
  kg : ¬ K g
  kr : ∀ r, v.ownBlock = some r → ¬ K r
  cell : w.heap[g]? = some (.cells #[v, .int .i64 (f.2 : Int)] 71 (0, 0))
  row : w.ownsRow 0 5 1 v f.1.length (cb f.1)
  safe : f.2 ≤ f.1.length
  big : f.1.length ≤ 1073741824
/-- A disk in memory: block d, its folders' blocks, its steps' row, its files. -/
structure DKc (w : World) (d : Nat) (S : DS) (K : Nat → Prop) (bn bs : Nat) (sv : Value) (gs : List Nat) (fv : Nat → Value) : Prop where
  Kb : ∀ k, K k → k < w.heap.size
  kd : ¬ K d
  kn : ¬ K bn
  ks : ¬ K bs
  ne : bn ≠ bs
  kst : ∀ r, sv.ownBlock = some r → ¬ K r
  cell : w.heap[d]? = some (.cells #[.int .i64 S.room, .map (some bn), .map (some bs), sv, .int .i64 S.left, .bool S.dead] 65 (0, 0))
  now : FM w bn S.now
  sure : FM w bs S.sure
  steps : w.ownsRow 0 74 4 sv S.steps.length (stC S.steps)
  file : ∀ g ∈ gs, FB w K g (S.fl g) (fv g)
  apart : ∀ g ∈ gs, ∀ h ∈ gs, g ≠ h → ∀ r, (fv g).ownBlock = some r → (fv h).ownBlock ≠ some r
  inN : ∀ p ∈ S.now, p.2 ∈ gs ∧ p.1.length ≤ 80
  inS : ∀ p ∈ S.sure, p.2 ∈ gs ∧ p.1.length ≤ 80
  inT : ∀ s ∈ S.steps, s.g ∈ gs ∧ s.nm.length ≤ 80 ∧ s.to.length ≤ 80 ∧ 0 ≤ s.what ∧ s.what ≤ 2
  room0 : 0 ≤ S.room
  room1 : S.room ≤ 1073741824
  left0 : -9223372036854775808 ≤ S.left
  left1 : S.left ≤ 9223372036854775807
def DK (w : World) (d : Nat) (S : DS) (K : Nat → Prop) (gs : List Nat) : Prop := ∃ bn bs sv fv, DKc w d S K bn bs sv gs fv

theorem FB.kept {w w' : World} {K : Nat → Prop} {g : Nat} {f : List UInt8 × Nat} {v : Value} (h : FB w K g f v) (h1 : w'.heap[g]? = w.heap[g]?) (h2 : ∀ r, v.ownBlock = some r → w'.heap[r]? = w.heap[r]?) : FB w' K g f v :=
  ⟨h.kg, h.kr, h1.trans h.cell, own_kept h.row h2, h.safe, h.big⟩
theorem FB.lt {w : World} {K : Nat → Prop} {g : Nat} {f : List UInt8 × Nat} {v : Value} (h : FB w K g f v) : g < w.heap.size := (Array.getElem?_eq_some_iff.1 h.cell).1
/-- The world has turned in none of the disk's blocks; others hold more. -/
theorem DKc.kept {w w' : World} {d : Nat} {S : DS} {K K' : Nat → Prop} {bn bs : Nat} {sv : Value} {gs : List Nat} {fv : Nat → Value} (h : DKc w d S K bn bs sv gs fv)
    (hb : ∀ k, k < w.heap.size → ¬ K k → w'.heap[k]? = w.heap[k]?) (hK' : ∀ k, K' k → k < w'.heap.size ∧ (K k ∨ w.heap.size ≤ k)) : DKc w' d S K' bn bs sv gs fv := by
  have hn : ∀ k, k < w.heap.size → ¬ K k → ¬ K' k := fun k hk h1 h2 => by rcases (hK' k h2).2 with h3 | h3; exact h1 h3; omega
  have hd : d < w.heap.size := (Array.getElem?_eq_some_iff.1 h.cell).1
  have hsv : ∀ r, sv.ownBlock = some r → r < w.heap.size := fun r hr => (own_lt h.steps hr).1
  exact ⟨fun k hk => (hK' k hk).1, hn d hd h.kd, hn bn h.now.lt h.kn, hn bs h.sure.lt h.ks, h.ne, fun r hr => hn r (hsv r hr) (h.kst r hr), (hb d hd h.kd).trans h.cell, h.now.kept (hb _ h.now.lt h.kn), h.sure.kept (hb _ h.sure.lt h.ks),
    own_kept h.steps (fun r hr => hb r (hsv r hr) (h.kst r hr)),
    fun g hg => by
      have f := h.file g hg
      exact ⟨hn g f.lt f.kg, fun r hr => hn r (own_lt f.row hr).1 (f.kr r hr), (hb g f.lt f.kg).trans f.cell, own_kept f.row (fun r hr => hb r (own_lt f.row hr).1 (f.kr r hr)), f.safe, f.big⟩,
    h.apart, h.inN, h.inS, h.inT, h.room0, h.room1, h.left0, h.left1⟩
theorem DK.kept {w w' : World} {d : Nat} {S : DS} {K K' : Nat → Prop} {gs : List Nat} (h : DK w d S K gs)
    (hb : ∀ k, k < w.heap.size → ¬ K k → w'.heap[k]? = w.heap[k]?) (hK' : ∀ k, K' k → k < w'.heap.size ∧ (K k ∨ w.heap.size ≤ k)) : DK w' d S K' gs := by
  obtain ⟨bn, bs, sv, fv, h⟩ := h
  exact ⟨bn, bs, sv, fv, h.kept hb hK'⟩
theorem DKc.below {w w' : World} {d : Nat} {S : DS} {K : Nat → Prop} {bn bs : Nat} {sv : Value} {gs : List Nat} {fv : Nat → Value} (h : DKc w d S K bn bs sv gs fv) (hb : Below w.heap.size w w') : DKc w' d S K bn bs sv gs fv :=
  h.kept (fun k hk _ => hb.block k hk) (fun k hk => ⟨Nat.lt_of_lt_of_le (h.Kb k hk) hb.size, .inl hk⟩)
theorem DK.below {w w' : World} {d : Nat} {S : DS} {K : Nat → Prop} {gs : List Nat} (h : DK w d S K gs) (hb : Below w.heap.size w w') : DK w' d S K gs := by
  obtain ⟨bn, bs, sv, fv, h⟩ := h
  exact ⟨bn, bs, sv, fv, h.below hb⟩
theorem DK.Kb {w : World} {d : Nat} {S : DS} {K : Nat → Prop} {gs : List Nat} (h : DK w d S K gs) : ∀ k, K k → k < w.heap.size := by
  obtain ⟨bn, bs, sv, fv, h⟩ := h; exact h.Kb
end Go.Proofs.YtmjfcneofpddiaaDoor
