/- node's AsPlain and MustPlain: a file with chunks of its own; the document's Target. -/
import Derived.Test.YtkgjepgaekbniaaDoorQNodSm
namespace Go.Proofs.YtkgjepgaekbniaaDoor
open Go.RowKit
set_option linter.unusedVariables false
set_option linter.unusedSimpArgs false

theorem app_nil_tr {w : World} {ops : Array Oper} {rest : List Oper} {o : Oper} {a : Act} {Q : Exit → Act → World → Prop} (hgd : o.guard = none) (s y : Operand)
    (ho : o.op = .call { callee := .builtin .append, args := #[s, y], argTypes := #[22, 22] })
    (v : Value) (l : List (List UInt8)) (hs : a.eval s = .slice none 0 0) (hx : a.eval y = v) (hV : TR w v l) (hl : l.length ≤ 8796093022208)
    (h : ∀ a' c' w', OT w' w.heap.size (.slice a' l.length c') l → Below w.heap.size w w' → wpList Tryd.prog ops Q rest (a.put o.dst (.slice a' l.length c')) w') : wpList Tryd.prog ops Q (o :: rest) a w := by
  have hw : Region.wanted o (yielded ops a.tmps) = true := by simp [Region.wanted, hgd]
  obtain ⟨a', cap', w', hr, h2, h3⟩ := run_append_texts (v := .slice none 0 0) (l := []) o.type (OT.nil w w.heap.size) hV (by simpa using hl) (Nat.le_refl _)
  unfold wpList
  rw [if_pos hw]
  refine .inl ?_
  unfold Oper.wp execOp
  simp only [ho, resolve, invoke, builtin, Sem.run_bind, Sem.run_pure, Result.andThen_ok, List.map_toArray, List.map_cons, List.map_nil, hs, hx, hr]
  simp only [List.nil_append] at h2 ⊢
  exact h a' cap' w' h2 ((Below.refl _ w).grown h3 (Nat.le_refl _) (fun q hq => by cases hq))
theorem fiveP {w : World} {g : Nat} {T : TypeId} {v0 v1 v2 v3 v4 : Value} (h : w.heap[g]? = some (.cells #[v0, v1, v2, v3, v4] T (0, 0))) :
    w.cell? ⟨g, 0, none⟩ = some v0 ∧ w.cell? ⟨g, 1, none⟩ = some v1 ∧ w.cell? ⟨g, 2, none⟩ = some v2 ∧ w.cell? ⟨g, 3, none⟩ = some v3 ∧ w.cell? ⟨g, 4, none⟩ = some v4 ∧
    w.frozen? ⟨g, 0, none⟩ = false ∧ w.frozen? ⟨g, 1, none⟩ = false ∧ w.frozen? ⟨g, 2, none⟩ = false ∧ w.frozen? ⟨g, 3, none⟩ = false ∧ w.frozen? ⟨g, 4, none⟩ = false := by
  refine ⟨?_, ?_, ?_, ?_, ?_, ?_, ?_, ?_, ?_, ?_⟩ <;> simp [World.cell?, World.frozen?, h]
theorem data_bang (g : List UInt8) (i : Nat) : (mkB g).data[i]! = g.getD i 0 := by
  show g.toArray[i]! = _
  rw [List.getD_eq_getElem?_getD, Array.getElem!_eq_getD, Array.getD_eq_getD_getElem?, List.getElem?_toArray]
  rfl
theorem not_mem_all {g : List UInt8} (h : ∀ i, i < g.length → g.getD i 0 ≠ 0) : (0 : UInt8) ∉ g := by
  intro hm
  obtain ⟨i, hi, h0⟩ := List.mem_iff_getElem.1 hm
  refine h i hi ?_
  rw [List.getD_eq_getElem?_getD, List.getElem?_eq_getElem hi]; exact h0
set_option maxRecDepth 100000 in
set_option maxHeartbeats 2000000 in
theorem rtargetN_any (g : List UInt8) (w : World) (hg : g.length ≤ 9223372036854775807) :
    Calls Tryd.prog 12 #[.string (mkB g)] w fun e w' => e = .returned (.bool (targN g)) ∧ w' = w := by
  have hsz : (mkB g).size = g.length := mkB_size g
  go_enter Tryd.func12, Tryd.ntmps12
  go_wp2
  go_loopw [3] (fun i wr => ∃ k : Nat, k ≤ g.length ∧ i = .int .i64 (k : Int) ∧ (∀ j, j < k → g.getD j 0 ≠ 0) ∧ wr = w) (fun i _ => g.length + 1 - (intOf i).toNat)
  case atStart => exact ⟨0, Nat.zero_le _, rfl, fun j hj => by omega, rfl⟩
  case round =>
    obtain ⟨k, hk, rfl, hall, rfl⟩ := hrel
    have HALL : Hid (∀ j, j < k → g.getD j 0 ≠ 0) := hall
    clear hall
    by_cases hlt : k < g.length
    · have hlt2 : k < (mkB g).size := by omega
      have hki : (k : Int) < ((mkB g).size : Int) := by omega
      have hki0 : (0 : Int) ≤ (k : Int) := by omega
      have HV : Hid ((((g[k]'hlt).toNat : Int) == 0) = decide (g.getD k 0 = 0)) := by
        unfold Hid
        rw [List.getD_eq_getElem?_getD, List.getElem?_eq_getElem hlt, Option.getD_some, Bool.eq_iff_iff, beq_iff_eq, decide_eq_true_iff]
        exact ⟨fun e => UInt8.toNat_inj.1 (by have : (0 : UInt8).toNat = 0 := rfl; omega), fun e => by rw [e]; rfl⟩
      go_upto_region 4 with fail
      go_cut [13] (fun v wx => v = .bool (decide (g.getD k 0 = 0)) ∧ wx = wr)
      case first =>
        go_wp2
        go_meet
        exact ⟨by first | exact congrArg Value.bool HV.out | (rw [HV.out]), rfl⟩
      case rest =>
        obtain ⟨rfl, rfl⟩ := hcut
        clear HV
        by_cases hz : g.getD k 0 = 0
        · have k1 : decide (g.getD k 0 = 0) = true := by simpa using hz
          have HT : Hid (targN g = false) := by
            unfold Hid targN
            have : (0 : UInt8) ∈ g := by
              rw [List.getD_eq_getElem?_getD, List.getElem?_eq_getElem hlt, Option.getD_some] at hz
              exact hz ▸ List.getElem_mem hlt
            simp [this]
          clear hz
          rw [k1]
          go_wp2
          go_ret
          exact ⟨by rw [HT.out]; rfl, rfl⟩
        · have k1 : decide (g.getD k 0 = 0) = false := by simpa using hz
          have HZ : Hid (g.getD k 0 ≠ 0) := hz
          clear hz
          rw [k1]
          go_wp2
          go_roundw
          case rel =>
            refine ⟨k + 1, by omega, by go_num, fun j hj => ?_, trivial⟩
            by_cases hjk : j = k
            · rw [hjk]; exact HZ.out
            · exact HALL.out j (by omega)
          case measure => simp [intOf]; omega
    · have hkn : k = g.length := by omega
      have HN : Hid ((0 : UInt8) ∉ g) := not_mem_all (fun i hi => HALL.out i (by omega))
      clear HALL
      by_cases h1 : 1 ≤ g.length
      · have h1i : (1 : Int) ≤ (g.length : Int) := by omega
        by_cases h2 : g.length ≤ 200
        · have h2i : (g.length : Int) ≤ 200 := by omega
          have HT : Hid (targN g = true) := by
            unfold Hid targN
            have hne : g ≠ [] := by intro e; rw [e] at h1; simp at h1
            simp [hne, h2, HN.out]
          go_wp2
          go_ret
          exact ⟨by rw [HT.out]; rfl, rfl⟩
        · have h2i : ¬ (g.length : Int) ≤ 200 := by omega
          have HT : Hid (targN g = false) := by
            unfold Hid targN
            simp [h2]
          go_wp2
          go_ret
          exact ⟨by rw [HT.out]; rfl, rfl⟩
      · have h1i : ¬ (1 : Int) ≤ (g.length : Int) := by omega
        have HT : Hid (targN g = false) := by
          unfold Hid targN
          have : g = [] := List.length_eq_zero_iff.1 (by omega)
          simp [this]
        go_wp2
        go_ret
        exact ⟨by rw [HT.out]; rfl, rfl⟩
theorem set5P {Y : World} {g : Nat} {T : TypeId} {z0 z1 z2 z3 z4 : Value} (v0 v1 v2 v3 v4 : Value) (h : Y.heap[g]? = some (.cells #[z0, z1, z2, z3, z4] T (0, 0))) :
    (((((Y.setCell ⟨g, 0, none⟩ v0).setCell ⟨g, 1, none⟩ v1).setCell ⟨g, 2, none⟩ v2).setCell ⟨g, 3, none⟩ v3).setCell ⟨g, 4, none⟩ v4).heap[g]? = some (.cells #[v0, v1, v2, v3, v4] T (0, 0)) ∧
    Y.grownBy (((((Y.setCell ⟨g, 0, none⟩ v0).setCell ⟨g, 1, none⟩ v1).setCell ⟨g, 2, none⟩ v2).setCell ⟨g, 3, none⟩ v3).setCell ⟨g, 4, none⟩ v4) (some g) := by
  refine ⟨?_, gset (gset (gset (gset (gset (grefl Y _) 0 _) 1 _) 2 _) 3 _) 4 _⟩
  rw [heap_setCell_same _ _ _ _ _ _ (heap_setCell_same _ _ _ _ _ _ (heap_setCell_same _ _ _ _ _ _ (heap_setCell_same _ _ _ _ _ _ (heap_setCell_same _ _ _ _ _ _ h))))]; rfl
theorem OT.set5 {Y W : World} {B g : Nat} {v : Value} {l : List (List UInt8)} (h : OT Y B v l) (hg : Y.grownBy W (some g)) (hB : g < B) : OT W B v l := World.ownsRow.kept h hg (by
  cases hv : v.ownBlock with
  | none => exact .inl rfl
  | some k => exact .inr (fun e => by have := (World.ownsRow.lt h k hv).1; have e2 : k = g := (by simpa using e); omega))
theorem bel_set {w Y W : World} {g : Nat} (h : Below w.heap.size w Y) (hg : Y.grownBy W (some g)) (hB : w.heap.size ≤ g) : Below w.heap.size w W := h.grown hg h.size (fun q hq => by have e2 : g = q := Option.some.inj hq; omega)
/-- A file as a value. -/
def plV (a : List UInt8) (m t s : Int) (u : Value) : Value := .agg #[.string (mkB a), .int .i64 m, .int .i64 t, .int .i64 s, u]
set_option maxRecDepth 100000 in
set_option maxHeartbeats 2000000 in
theorem ncopied_any (at' : List UInt8) (m t s : Int) (c : List (List UInt8)) (u : Value) (w : World) (hu : TR w u c) (hl : c.length ≤ 8796093022208) :
    Calls Tryd.prog 14 #[plV at' m t s u] w fun e w' => ∃ u', e = .returned (plV at' m t s u') ∧ OT w' w.heap.size u' c ∧ Below w.heap.size w w' := by
  obtain ⟨ua, uc, rfl⟩ : ∃ a c', u = .slice a c.length c' := by obtain ⟨a, c', hv, _⟩ := hu; exact ⟨a, c', hv⟩
  unfold plV
  have hz0 := first_heap w (.cells #[.string (mkB at'), .int .i64 m, .int .i64 t, .int .i64 s, .slice ua c.length uc] 29) (.cells #[.string ⟨#[]⟩, .int .i64 0, .int .i64 0, .int .i64 0, .slice none 0 0] 29)
  have hz1 := heap_alloc_new (w.alloc (.cells #[.string (mkB at'), .int .i64 m, .int .i64 t, .int .i64 s, .slice ua c.length uc] 29)) (.cells #[.string ⟨#[]⟩, .int .i64 0, .int .i64 0, .int .i64 0, .slice none 0 0] 29)
  rw [World.size_alloc] at hz1
  have hbX : Below w.heap.size w ((w.alloc (.cells #[.string (mkB at'), .int .i64 m, .int .i64 t, .int .i64 s, .slice ua c.length uc] 29)).alloc (.cells #[.string ⟨#[]⟩, .int .i64 0, .int .i64 0, .int .i64 0, .slice none 0 0] 29)) := ((Below.refl _ _).alloc (Nat.le_refl _) _).alloc (by simp) _
  have HU : Hid (TR _ (.slice ua c.length uc) c) := hu.below hbX
  have HBX : Hid (Below w.heap.size w _) := hbX
  have hsX : w.heap.size + 2 ≤ ((w.alloc (.cells #[.string (mkB at'), .int .i64 m, .int .i64 t, .int .i64 s, .slice ua c.length uc] 29)).alloc (.cells #[.string ⟨#[]⟩, .int .i64 0, .int .i64 0, .int .i64 0, .slice none 0 0] 29)).heap.size := by simp
  clear hu hbX
  go_enter Tryd.func14, Tryd.ntmps14
  go_upto_region 1 with fail
  generalize World.alloc (World.alloc w _) _ = X at *
  obtain ⟨c0, c1, c2, c3, c4, -⟩ := fiveP hz0
  have HZ0 : Hid (_ = _) := hz0
  have HZ1 : Hid (_ = _) := hz1
  clear hz0 hz1
  go_upto_region 2 with (at_builtin; refine app_nil_tr rfl _ _ rfl (.slice ua c.length uc) c rfl rfl HU.out hl ?_; intro a' c' w' hO hb; obtain ⟨d0, d1, d2, d3, d4, e0, e1, e2, e3, e4⟩ := fiveP ((hb.block _ (Nat.lt_of_lt_of_le (by omega) hsX)).trans HZ0.out))
  have hs2 := heap_setCell_same w' w.heap.size 4 _ _ (.slice a' c.length c') ((hb.block _ (Nat.lt_of_lt_of_le (by omega) hsX)).trans HZ0.out)
  have hz1' := (hb.block _ (Nat.lt_of_lt_of_le (by omega) hsX)).trans HZ1.out
  have hne : w.heap.size ≠ w.heap.size + 1 := by omega
  have hg2 : w'.grownBy (w'.setCell ⟨w.heap.size, 4, none⟩ (.slice a' c.length c')) (some w.heap.size) := gset (grefl w' _) 4 _
  have hB2 : Below w.heap.size w w' := HBX.out.trans (hb.mono (by omega))
  have hz1'' : (w'.setCell ⟨w.heap.size, 4, none⟩ (.slice a' c.length c')).heap[w.heap.size + 1]? = _ := (hg2.block _ (by have := hb.size; omega) (fun e => by have e2 : w.heap.size + 1 = w.heap.size := Option.some.inj e; omega)).trans hz1'
  have hOT2 : OT (w'.setCell ⟨w.heap.size, 4, none⟩ (.slice a' c.length c')) X.heap.size (.slice a' c.length c') c := World.ownsRow.kept hO hg2 (by
    cases hv : (Value.slice a' c.length c').ownBlock with
    | none => exact .inl rfl
    | some k => exact .inr (fun e => by have := (World.ownsRow.lt hO k hv).1; have e2 : k = w.heap.size := (by simpa using e); omega))
  have hB3 : Below w.heap.size w (w'.setCell ⟨w.heap.size, 4, none⟩ (.slice a' c.length c')) := hB2.grown hg2 hB2.size (fun q hq => by have e2 : w.heap.size = q := Option.some.inj hq; omega)
  clear d0 d1 d2 d3 d4 e0 e1 e2 e3 e4 hz1' hg2 hB2 hO hb c0 c1 c2 c3 c4 HZ0 HZ1 HU HBX
  simp only [List.setIfInBounds_toArray, List.set_cons_zero, List.set_cons_succ] at hs2
  generalize World.setCell w' _ _ = Y at *
  obtain ⟨d0, d1, d2, d3, d4, -⟩ := fiveP hs2
  obtain ⟨f0, f1, f2, f3, f4, e0, e1, e2, e3, e4⟩ := fiveP hz1''
  have HO : Hid (OT Y X.heap.size _ c) := hOT2
  have HB : Hid (Below w.heap.size w Y) := hB3
  have HZ : Hid (_ = _) := hz1''
  clear hOT2 hB3 hz1'' hs2
  go_wp2
  obtain ⟨q1, q2⟩ := set5P (.string (mkB at')) (.int .i64 m) (.int .i64 t) (.int .i64 s) (.slice a' c.length c') HZ.out
  refine bodyPost_ret (results_cell_row rfl _ _ (w.heap.size + 1) 29 _ (0, 0) _ rfl q1 Tryd.underlying29 rfl (by kernel_rfl)) rfl ⟨.slice a' c.length c', rfl, own_baseN (OT.set5 HO.out q2 (by omega)) (by omega), bel_set HB.out q2 (by omega)⟩
/-- What AsPlain's question finds: the file, or the zero one. -/
def plR : Nd → (List UInt8 × Int × Int × Int × List (List UInt8))
  | .pla a m t s c => (a, m, t, s, c)
  | _ => ([], 0, 0, 0, [])
def isP : Nd → Bool
  | .pla .. => true
  | _ => false
theorem TR.nilR (w : World) : TR w (.slice none 0 0) [] := ⟨none, 0, rfl, by simp, fun i hi => by simp at hi⟩
set_option maxRecDepth 100000 in
set_option maxHeartbeats 2000000 in
theorem nasked_any (n : Nd) (v : Value) (w : World) (h : NV w v n) :
    Calls Tryd.prog 13 #[v] w fun e w' => ∃ u, e = .returned (.tuple #[plV (plR n).1 (plR n).2.1 (plR n).2.2.1 (plR n).2.2.2.1 u, .bool (isP n)]) ∧ TR w u (plR n).2.2.2.2 ∧ Below w.heap.size w w' := by
  cases n with
  | pla a m t s c =>
    obtain ⟨u, rfl, hu⟩ := h
    obtain ⟨ua, uc, rfl⟩ : ∃ a c', u = .slice a c.length c' := by obtain ⟨a, c', hv, _⟩ := hu; exact ⟨a, c', hv⟩
    have q := taPP
    unfold plV
    go_enter Tryd.func13, Tryd.ntmps13
    go_wp2
    have hz := first_heap w (.cells #[(.string (mkB a)), (.int .i64 m), (.int .i64 t), (.int .i64 s), (.slice ua c.length uc)] 29) (.cells #[(.string (mkB a)), (.int .i64 m), (.int .i64 t), (.int .i64 s), (.slice ua c.length uc)] 29)
    obtain ⟨k0, k1, k2, k3, k4, -⟩ := fiveP hz
    have hB : Below w.heap.size w ((w.alloc (.cells #[(.string (mkB a)), (.int .i64 m), (.int .i64 t), (.int .i64 s), (.slice ua c.length uc)] 29)).alloc (.cells #[(.string (mkB a)), (.int .i64 m), (.int .i64 t), (.int .i64 s), (.slice ua c.length uc)] 29)) := ((Below.refl _ _).alloc (Nat.le_refl _) _).alloc (by simp) _
    exact bodyPost_ret (v := .tuple #[.agg #[(.string (mkB a)), (.int .i64 m), (.int .i64 t), (.int .i64 s), (.slice ua c.length uc)], .bool true]) (by simp [results, Tryd.results13, go_sem, k0, k1, k2, k3, k4]) rfl ⟨(.slice ua c.length uc), rfl, hu, hB⟩
  | fol a m t =>
    obtain rfl := h
    have q := taFP
    unfold zP at q
    unfold plV
    go_enter Tryd.func13, Tryd.ntmps13
    go_wp2
    have hz := first_heap w (.cells #[(.string ⟨#[]⟩), (.int .i64 0), (.int .i64 0), (.int .i64 0), (.slice none 0 0)] 29) (.cells #[(.string ⟨#[]⟩), (.int .i64 0), (.int .i64 0), (.int .i64 0), (.slice none 0 0)] 29)
    obtain ⟨k0, k1, k2, k3, k4, -⟩ := fiveP hz
    have hB : Below w.heap.size w ((w.alloc (.cells #[(.string ⟨#[]⟩), (.int .i64 0), (.int .i64 0), (.int .i64 0), (.slice none 0 0)] 29)).alloc (.cells #[(.string ⟨#[]⟩), (.int .i64 0), (.int .i64 0), (.int .i64 0), (.slice none 0 0)] 29)) := ((Below.refl _ _).alloc (Nat.le_refl _) _).alloc (by simp) _
    exact bodyPost_ret (v := .tuple #[.agg #[(.string ⟨#[]⟩), (.int .i64 0), (.int .i64 0), (.int .i64 0), (.slice none 0 0)], .bool false]) (by simp [results, Tryd.results13, go_sem, k0, k1, k2, k3, k4]) rfl ⟨(.slice none 0 0), rfl, TR.nilR w, hB⟩
  | sym a m t g =>
    obtain rfl := h
    have q := taSP
    unfold zP at q
    unfold plV
    go_enter Tryd.func13, Tryd.ntmps13
    go_wp2
    have hz := first_heap w (.cells #[(.string ⟨#[]⟩), (.int .i64 0), (.int .i64 0), (.int .i64 0), (.slice none 0 0)] 29) (.cells #[(.string ⟨#[]⟩), (.int .i64 0), (.int .i64 0), (.int .i64 0), (.slice none 0 0)] 29)
    obtain ⟨k0, k1, k2, k3, k4, -⟩ := fiveP hz
    have hB : Below w.heap.size w ((w.alloc (.cells #[(.string ⟨#[]⟩), (.int .i64 0), (.int .i64 0), (.int .i64 0), (.slice none 0 0)] 29)).alloc (.cells #[(.string ⟨#[]⟩), (.int .i64 0), (.int .i64 0), (.int .i64 0), (.slice none 0 0)] 29)) := ((Below.refl _ _).alloc (Nat.le_refl _) _).alloc (by simp) _
    exact bodyPost_ret (v := .tuple #[.agg #[(.string ⟨#[]⟩), (.int .i64 0), (.int .i64 0), (.int .i64 0), (.slice none 0 0)], .bool false]) (by simp [results, Tryd.results13, go_sem, k0, k1, k2, k3, k4]) rfl ⟨(.slice none 0 0), rfl, TR.nilR w, hB⟩
  | ptr a m t =>
    obtain ⟨x, rfl, h1, h2, h3⟩ := h
    have q := taXP
    unfold zP at q
    unfold plV
    go_enter Tryd.func13, Tryd.ntmps13
    go_wp2
    have hz := first_heap w (.cells #[(.string ⟨#[]⟩), (.int .i64 0), (.int .i64 0), (.int .i64 0), (.slice none 0 0)] 29) (.cells #[(.string ⟨#[]⟩), (.int .i64 0), (.int .i64 0), (.int .i64 0), (.slice none 0 0)] 29)
    obtain ⟨k0, k1, k2, k3, k4, -⟩ := fiveP hz
    have hB : Below w.heap.size w ((w.alloc (.cells #[(.string ⟨#[]⟩), (.int .i64 0), (.int .i64 0), (.int .i64 0), (.slice none 0 0)] 29)).alloc (.cells #[(.string ⟨#[]⟩), (.int .i64 0), (.int .i64 0), (.int .i64 0), (.slice none 0 0)] 29)) := ((Below.refl _ _).alloc (Nat.le_refl _) _).alloc (by simp) _
    exact bodyPost_ret (v := .tuple #[.agg #[(.string ⟨#[]⟩), (.int .i64 0), (.int .i64 0), (.int .i64 0), (.slice none 0 0)], .bool false]) (by simp [results, Tryd.results13, go_sem, k0, k1, k2, k3, k4]) rfl ⟨(.slice none 0 0), rfl, TR.nilR w, hB⟩
  | non =>
    obtain rfl := h
    have q := taNP
    unfold zP at q
    unfold plV
    go_enter Tryd.func13, Tryd.ntmps13
    go_wp2
    have hz := first_heap w (.cells #[(.string ⟨#[]⟩), (.int .i64 0), (.int .i64 0), (.int .i64 0), (.slice none 0 0)] 29) (.cells #[(.string ⟨#[]⟩), (.int .i64 0), (.int .i64 0), (.int .i64 0), (.slice none 0 0)] 29)
    obtain ⟨k0, k1, k2, k3, k4, -⟩ := fiveP hz
    have hB : Below w.heap.size w ((w.alloc (.cells #[(.string ⟨#[]⟩), (.int .i64 0), (.int .i64 0), (.int .i64 0), (.slice none 0 0)] 29)).alloc (.cells #[(.string ⟨#[]⟩), (.int .i64 0), (.int .i64 0), (.int .i64 0), (.slice none 0 0)] 29)) := ((Below.refl _ _).alloc (Nat.le_refl _) _).alloc (by simp) _
    exact bodyPost_ret (v := .tuple #[.agg #[(.string ⟨#[]⟩), (.int .i64 0), (.int .i64 0), (.int .i64 0), (.slice none 0 0)], .bool false]) (by simp [results, Tryd.results13, go_sem, k0, k1, k2, k3, k4]) rfl ⟨(.slice none 0 0), rfl, TR.nilR w, hB⟩
theorem TR.formS {w : World} {v : Value} {l : List (List UInt8)} (h : TR w v l) : ∃ a c, v = .slice a l.length c := by
  obtain ⟨a, c', hv, _⟩ := h; exact ⟨a, c', hv⟩
set_option maxRecDepth 100000 in
set_option maxHeartbeats 2000000 in
theorem nasPlain_any (n : Nd) (v : Value) (w : World) (h : NV w v n) (hl : (plR n).2.2.2.2.length ≤ 8796093022208) :
    Calls Tryd.prog 5 #[v] w fun e w' => ∃ u, e = .returned (.tuple #[plV (plR n).1 (plR n).2.1 (plR n).2.2.1 (plR n).2.2.2.1 u, .bool (isP n)]) ∧ OT w' w.heap.size u (plR n).2.2.2.2 ∧ Below w.heap.size w w' := by
  have hal : Below w.heap.size w (w.alloc (.cells #[.string ⟨#[]⟩, .int .i64 0, .int .i64 0, .int .i64 0, .slice none 0 0] 29)) := (Below.refl _ _).alloc (Nat.le_refl _) _
  have hz := heap_alloc_new w (.cells #[.string ⟨#[]⟩, .int .i64 0, .int .i64 0, .int .i64 0, .slice none 0 0] 29)
  have HA : Hid (Calls _ _ _ _ _) := nasked_any n v _ (h.below hal)
  have HZ : Hid (_ = _) := hz
  have HAL : Hid (Below w.heap.size w _) := hal
  have hsz : w.heap.size < (w.alloc (.cells #[.string ⟨#[]⟩, .int .i64 0, .int .i64 0, .int .i64 0, .slice none 0 0] 29)).heap.size := by simp
  clear hal hz h
  generalize plR n = R at *
  obtain ⟨A, M, T, S, C⟩ := R
  simp only at *
  go_enter Tryd.func5, Tryd.ntmps5
  go_wp2_with fail
  generalize World.alloc w _ = X at *
  refine (Hid.out HA : Calls _ _ _ _ _).mono ?_
  rintro e w1 ⟨u, rfl, hu, hb1⟩
  obtain ⟨ua, uc, rfl⟩ := hu.formS
  have HZ1 : Hid (w1.heap[w.heap.size]? = _) := (hb1.block _ hsz).trans HZ.out
  have hA1 : Below w1.heap.size w1 (w1.alloc (.cells #[.string (mkB A), .int .i64 M, .int .i64 T, .int .i64 S, .slice ua C.length uc] 29)) := (Below.refl _ _).alloc (Nat.le_refl _) _
  have HC : Hid (Calls _ _ _ _ _) := ncopied_any A M T S C _ _ ((hu.below hb1).below hA1) hl
  have hsz1 : w.heap.size < w1.heap.size := Nat.lt_of_lt_of_le hsz hb1.size
  have HB1 : Hid (Below w.heap.size w w1) := HAL.out.trans (hb1.mono (Nat.le_of_lt hsz))
  have HB2 : Hid (Below w.heap.size w _) := HB1.out.trans (hA1.mono HB1.out.size)
  have HZ2 : Hid ((w1.alloc (.cells #[.string (mkB A), .int .i64 M, .int .i64 T, .int .i64 S, .slice ua C.length uc] 29)).heap[w.heap.size]? = _) := (hA1.block _ hsz1).trans HZ1.out
  have hsz2 : w.heap.size < (w1.alloc (.cells #[.string (mkB A), .int .i64 M, .int .i64 T, .int .i64 S, .slice ua C.length uc] 29)).heap.size := by rw [World.size_alloc]; omega
  clear hb1 hA1 hu HZ1 HB1 HA HZ HAL
  unfold plV
  unfold plV at HC
  go_wp2_with fail
  generalize World.alloc w1 _ = Y at *
  refine (Hid.out HC : Calls _ _ _ _ _).mono ?_
  rintro e w3 ⟨u', rfl, hO, hb3⟩
  obtain ⟨va, vc, rfl⟩ := OT.formN hO
  have HZ3 : Hid (w3.heap[w.heap.size]? = _) := (hb3.block _ hsz2).trans HZ2.out
  have HO : Hid (OT w3 Y.heap.size _ C) := hO
  have HB3 : Hid (Below w.heap.size w w3) := HB2.out.trans (hb3.mono (Nat.le_of_lt hsz2))
  obtain ⟨d0, d1, d2, d3, d4, e0, e1, e2, e3, e4⟩ := fiveP HZ3.out
  clear hO hb3 HZ2 HB2 HC
  go_wp2
  obtain ⟨q1, q2⟩ := set5P (.string (mkB A)) (.int .i64 M) (.int .i64 T) (.int .i64 S) (.slice va C.length vc) HZ3.out
  obtain ⟨k0, k1, k2, k3, k4, -⟩ := fiveP q1
  exact bodyPost_ret (v := .tuple #[.agg #[.string (mkB A), .int .i64 M, .int .i64 T, .int .i64 S, .slice va C.length vc], .bool (isP n)]) (by simp [results, Tryd.results5, go_sem, k0, k1, k2, k3, k4]) rfl ⟨_, rfl, own_baseN (OT.set5 HO.out q2 hsz2) (Nat.le_of_lt hsz2), bel_set HB3.out q2 (Nat.le_refl _)⟩
theorem taP1 (v : Value) (xT : TypeId) (w : World) : (Instr.typeAssert (.iface 29 v) xT 29 false).run Tryd.prog w = .ok v w := by
  simp [Instr.typeAssert, run_underlying Tryd.underlying29, go_sem, Result.andThen]
set_option maxRecDepth 100000 in
set_option maxHeartbeats 2000000 in
theorem nmust_any (A : List UInt8) (M T S : Int) (C : List (List UInt8)) (v : Value) (w : World) (h : NV w v (.pla A M T S C)) (hl : C.length ≤ 8796093022208) :
    Calls Tryd.prog 6 #[v] w fun e w' => ∃ u, e = .returned (plV A M T S u) ∧ OT w' w.heap.size u C ∧ Below w.heap.size w w' := by
  obtain ⟨u, rfl, hu⟩ := h
  obtain ⟨ua, uc, rfl⟩ := hu.formS
  have HK : Hid (∀ W, Below w.heap.size w W → Calls Tryd.prog 15 #[.iface 29 (.agg #[.string (mkB A), .int .i64 M, .int .i64 T, .int .i64 S, .slice ua C.length uc])] W fun e w' => e = .returned (.agg #[.string (mkB A), .int .i64 M, .int .i64 T, .int .i64 S, .slice ua C.length uc]) ∧ Below W.heap.size W w') := fun W hW => by
    have q := taP1
    have hz := heap_alloc_new W (.cells #[.string (mkB A), .int .i64 M, .int .i64 T, .int .i64 S, .slice ua C.length uc] 29)
    obtain ⟨k0, k1, k2, k3, k4, -⟩ := fiveP hz
    have hB : Below W.heap.size W (W.alloc (.cells #[.string (mkB A), .int .i64 M, .int .i64 T, .int .i64 S, .slice ua C.length uc] 29)) := (Below.refl _ _).alloc (Nat.le_refl _) _
    go_enter Tryd.func15, Tryd.ntmps15
    go_wp2
    exact bodyPost_ret (v := .agg #[.string (mkB A), .int .i64 M, .int .i64 T, .int .i64 S, .slice ua C.length uc]) (by simp [results, Tryd.results15, go_sem, k0, k1, k2, k3, k4]) rfl ⟨rfl, hB⟩
  have hal : Below w.heap.size w (w.alloc (.cells #[.string ⟨#[]⟩, .int .i64 0, .int .i64 0, .int .i64 0, .slice none 0 0] 29)) := (Below.refl _ _).alloc (Nat.le_refl _) _
  have hz := heap_alloc_new w (.cells #[.string ⟨#[]⟩, .int .i64 0, .int .i64 0, .int .i64 0, .slice none 0 0] 29)
  have HZ : Hid (_ = _) := hz
  have HAL : Hid (Below w.heap.size w _) := hal
  have HU : Hid (TR w (.slice ua C.length uc) C) := hu
  have hsz : w.heap.size < (w.alloc (.cells #[.string ⟨#[]⟩, .int .i64 0, .int .i64 0, .int .i64 0, .slice none 0 0] 29)).heap.size := by simp
  clear hal hz hu
  unfold plV
  go_enter Tryd.func6, Tryd.ntmps6
  go_wp2_with fail
  generalize World.alloc w _ = X at *
  refine (HK.out X HAL.out).mono ?_
  rintro e w1 ⟨rfl, hb1⟩
  have HZ1 : Hid (w1.heap[w.heap.size]? = _) := (hb1.block _ hsz).trans HZ.out
  have HB1 : Hid (Below w.heap.size w w1) := HAL.out.trans (hb1.mono (Nat.le_of_lt hsz))
  have hsz1 : w.heap.size < w1.heap.size := Nat.lt_of_lt_of_le hsz hb1.size
  have HC : Hid (Calls _ _ _ _ _) := ncopied_any A M T S C _ w1 (HU.out.below HB1.out) hl
  clear hb1 HZ HAL HK HU
  unfold plV at HC
  go_wp2_with fail
  refine (Hid.out HC : Calls _ _ _ _ _).mono ?_
  rintro e w3 ⟨u', rfl, hO, hb3⟩
  obtain ⟨va, vc, rfl⟩ := OT.formN hO
  have HZ3 : Hid (w3.heap[w.heap.size]? = _) := (hb3.block _ hsz1).trans HZ1.out
  have HO : Hid (OT w3 w1.heap.size _ C) := hO
  have HB3 : Hid (Below w.heap.size w w3) := HB1.out.trans (hb3.mono (Nat.le_of_lt hsz1))
  obtain ⟨d0, d1, d2, d3, d4, e0, e1, e2, e3, e4⟩ := fiveP HZ3.out
  clear hO hb3 HZ1 HB1 HC
  go_wp2
  obtain ⟨q1, q2⟩ := set5P (.string (mkB A)) (.int .i64 M) (.int .i64 T) (.int .i64 S) (.slice va C.length vc) HZ3.out
  obtain ⟨k0, k1, k2, k3, k4, -⟩ := fiveP q1
  exact bodyPost_ret (v := .agg #[.string (mkB A), .int .i64 M, .int .i64 T, .int .i64 S, .slice va C.length vc]) (by simp [results, Tryd.results6, go_sem, k0, k1, k2, k3, k4]) rfl ⟨_, rfl, own_baseN (OT.set5 HO.out q2 hsz1) (Nat.le_of_lt hsz1), bel_set HB3.out q2 (Nat.le_refl _)⟩
end Go.Proofs.YtkgjepgaekbniaaDoor
