/- Contract: the law's Do. -/
import Derived.Test.YtgpfbahmkbdjmabDskU
namespace Go.Proofs.Ytgpfbahmkbdjmab
open Go.RowKit Go.Maps
set_option linter.unusedVariables false
set_option linter.unusedSimpArgs false

theorem Try.infoI : (Try.prog.info? 3).map (fun i => (i.zero, i.size, i.bytes)) = some (some (.int .i64 0), 1, 8) := by kernel_rfl
def ic (l : List Int) : List Value := l.map fun z => Value.int .i64 z
theorem ic_len (l : List Int) : (ic l).length = l.length := by simp [ic]
theorem KSl_own {w : World} {base : Nat} {v : Value} {ks : List Int} (h : w.ownsRow base 3 1 v ks.length (ic ks)) (hb : ∀ z ∈ ks, -9223372036854775808 ≤ z ∧ z ≤ 9223372036854775807) : KSl w v ks := by
  have h' := h
  rcases h.2 with ⟨rfl, h0⟩ | ⟨g, cap, cur, rfl, _, h5, h6, h7, _⟩
  · exact ⟨none, 0, by rw [h0], by omega, by omega, fun i hi => (by omega), hb⟩
  · refine ⟨_, cap, rfl, h6, by unfold maxLen at h7; omega, fun i hi => ⟨g, 0, rfl, (Array.getElem?_eq_some_iff.1 h5).1, ?_⟩, hb⟩
    have := h'.cells (g := g) rfl i (.int .i64 (ks.getD i 0)) (by rw [ic, List.getElem?_map, List.getElem?_eq_getElem hi, List.getD_eq_getElem?_getD, List.getElem?_eq_getElem hi]; rfl)
    rw [Addr.add_mid] at this; exact this
/-- append([]int{}, l...). -/
theorem append_copy {w : World} {u : Value} {ks : List Int} (ty : TypeId) (hu : KSl w u ks) (hl : ks.length ≤ 17592186043904) :
    ∃ a' cap' w', (Builtin.append_ #[24, 24] ty #[.slice (some ⟨w.heap.size, 0, none⟩) 0 0, u]).run Try.prog (w.alloc (.cells #[] 3)) = .ok (.slice a' ks.length cap') w' ∧ KSl w' (.slice a' ks.length cap') ks ∧ (∀ r, (Value.slice a' ks.length cap').ownBlock = some r → w.heap.size ≤ r ∧ r < w'.heap.size) ∧ Below w.heap.size w w' := by
  obtain ⟨i0, hi, hz0, hz1, hz2⟩ := info_parts Try.infoI
  have ht := Try.underlying24
  have hB : Below w.heap.size w (w.alloc (.cells #[] 3)) := (Below.refl _ _).alloc (Nat.le_refl _) _
  have hO : (w.alloc (.cells #[] 3)).ownsRow w.heap.size 3 1 (.slice (some ⟨w.heap.size, 0, none⟩) 0 0) 0 [] := World.ownsRow_made (base := w.heap.size) (e := 3) (size := 1) w #[] 0 (Nat.le_refl _) (by decide) rfl
  have hu' := hu.below hB
  obtain ⟨a, cap, rfl, hle, h63, hc, hbd⟩ := hu'
  by_cases h0 : ks.length = 0
  · obtain rfl := List.length_eq_zero_iff.1 h0
    refine ⟨some ⟨w.heap.size, 0, none⟩, 0, w.alloc (.cells #[] 3), ?_, ⟨_, 0, rfl, Nat.le_refl _, by simp, fun i hi => (by simp at hi), fun z hz => (by simp at hz)⟩, fun r hr => (by cases hr; exact ⟨Nat.le_refl _, by simp⟩), hB⟩
    cases a with
    | none => simp [Builtin.append_, run_underlying ht, sizeOf, typeInfo, hi, Builtin.lenOf, Builtin.firstCells, storeCells]
    | some x => simp [Builtin.append_, run_underlying ht, sizeOf, typeInfo, hi, Builtin.lenOf, Builtin.firstCells, storeCells, loadCells, loadCellsFrom]
  · obtain ⟨b, o, rfl, _, _⟩ := hc 0 (by omega)
    have hN : ∀ j y, (ic ks)[j]? = some y → (w.alloc (.cells #[] 3)).cell? ((⟨b, o, none⟩ : Addr).add j) = some y := fun j y hy => by
      have hj : j < ks.length := by have := (List.getElem?_eq_some_iff.1 hy).1; rw [ic_len] at this; exact this
      obtain ⟨b', o', e, _, hc'⟩ := hc j hj
      cases e
      rw [Addr.add_mid, hc', ← hy, ic, List.getElem?_map, List.getElem?_eq_getElem hj, List.getD_eq_getElem?_getD, List.getElem?_eq_getElem hj]; rfl
    have H1 : ∀ y ∈ ic ks, y.oneCell' = true := by
      intro y hy
      simp [ic] at hy
      obtain ⟨_, _, rfl⟩ := hy; rfl
    obtain ⟨v', w', hr, hown, hgr, _, hat⟩ := run_append_own_at (P := Try.prog) (w.alloc (.cells #[] 3)) w.heap.size 24 ty 3 i0 (.int .i64 0) 1 8 ht hi hz0 hz1 hz2 rfl (by decide) _ _ _ hO ⟨b, o, none⟩ ks.length cap (ic ks) (by rw [ic_len, Nat.mul_one]) hN H1 (by unfold maxLen; omega) (by omega) (by simp)
    rw [Nat.zero_add, List.nil_append] at hown
    obtain ⟨a', cap', rfl, _⟩ := own_form hown
    refine ⟨a', cap', w', hr, KSl_own hown hbd, fun r hr => ?_, hB.grown hgr (by simp) (fun k hk => by cases hk; exact Nat.le_refl _)⟩
    have h1 := own_lt hown hr
    rcases hown.2 with ⟨e, _⟩ | ⟨g, c, cur, e, hge, _⟩
    · rw [e] at hr; cases hr
    · rw [e] at hr; cases hr; exact ⟨hge, h1.1⟩
theorem wpList_copy {w : World} {ops : Array Oper} {rest : List Oper} {o : Oper} {a : Act} {Q : Exit → Act → World → Prop} (hgd : o.guard = none) (s x : Operand)
    (ho : o.op = .call { callee := .builtin .append, args := #[s, x], argTypes := #[24, 24] }) (u : Value) (ks : List Int) (hs : a.eval s = .slice (some ⟨w.heap.size, 0, none⟩) 0 0) (hx : a.eval x = u) (hu : KSl w u ks) (hl : ks.length ≤ 17592186043904)
    (h : ∀ a' cap' w', KSl w' (.slice a' ks.length cap') ks → (∀ r, (Value.slice a' ks.length cap').ownBlock = some r → w.heap.size ≤ r ∧ r < w'.heap.size) → Below w.heap.size w w' → wpList Try.prog ops Q rest (a.put o.dst (.slice a' ks.length cap')) w') : wpList Try.prog ops Q (o :: rest) a (w.alloc (.cells #[] 3)) := by
  refine wpList_plain hgd fun K hK => ?_
  obtain ⟨a', cap', w', hr, h2, h3, h4⟩ := append_copy o.type hu hl
  unfold Oper.wp execOp
  simp only [ho, resolve, invoke, builtin, Sem.run_bind, Sem.run_pure, Result.andThen_ok, List.map_toArray, List.map_cons, List.map_nil, hs, hx, hr]
  exact hK _ _ (h a' cap' w' h2 h3 h4)
theorem crash_new {d : Nat} {S : DS} {K : Nat → Prop} {gs : List Nat} (ks : List Int) (v : Value) (w w' : World) (h : DK w d S K gs) (hb : Below w.heap.size w w') (hv : KSl w' v ks) (hvb : ∀ r, v.ownBlock = some r → w.heap.size ≤ r ∧ r < w'.heap.size) (hl : S.sure.length + S.steps.length ≤ 1000000) :
    Calls Try.prog 12 #[.pointer (some ⟨d, 0, none⟩), v] w' fun e w2 => e = .returned (.tuple #[]) ∧ DK w2 d (crS S ks) K gs ∧ Keeps K w w2 := by
  have h2 : DK w' d S (fun k => K k ∨ (w.heap.size ≤ k ∧ k < w'.heap.size)) gs := h.kept (fun k hk _ => hb.block k hk) (fun k hk => by
    rcases hk with hk | hk
    · exact ⟨Nat.lt_of_lt_of_le (h.Kb k hk) hb.size, .inl hk⟩
    · exact ⟨hk.2, .inr hk.1⟩)
  refine (crash_any ks v w' h2 hv (fun _ r hr => .inr (hvb r hr)) hl).mono ?_
  rintro e w2 ⟨e1, e2, e3⟩
  exact ⟨e1, e2.less (fun k hk => .inl hk), (Keeps.of_below hb h.Kb).trans (e3.mono (fun k hk => .inl hk))⟩
set_option maxRecDepth 100000 in
set_option maxHeartbeats 4000000 in
theorem do14_any {d i : Nat} {S : DS} {K : Nat → Prop} {gs : List Nat} (r : OpR) (u : Value) (w : World) (h : DK w d S K gs) (hS : SI S i) (hi : i < 40) (hok : r.ok) (hu : KSl w u r.ks) (hk : r.kind ≠ 6) (hf : r.fr ≠ mineX) (ht : r.to ≠ mineX) :
    Calls Try.prog 8 #[.pointer (some ⟨d, 0, none⟩), .agg (r.cells u).toArray] w fun e w' => ∃ (z : Int) (S' : DS) (gs' : List Nat), e = .returned (.int .i64 z) ∧ SI S' (i + 1) ∧ DK w' d S' K gs' ∧ Keeps K w w' := by
  obtain ⟨kind, fr, to, at', ks⟩ := r
  obtain ⟨ok1, ok2, ok3, ok4, ok5⟩ := hok
  simp only [OpR.cells] at *
  obtain ⟨ua, uc, rfl, _⟩ := id hu
  obtain ⟨w1, hw1⟩ : ∃ w1, w1 = w.alloc (.cells #[.int .i64 kind, .string (mkT fr), .string (mkT to), .int .i64 at', .slice ua ks.length uc] 30) := ⟨_, rfl⟩
  have HB1 : Hid (Below w.heap.size w w1) := by rw [hw1]; exact (Below.refl _ _).alloc (Nat.le_refl _) _
  have hbx : w1.heap[w.heap.size]? = some (.cells #[.int .i64 kind, .string (mkT fr), .string (mkT to), .int .i64 at', .slice ua ks.length uc] 30 (0, 0)) := by rw [hw1]; exact heap_alloc_new _ _
  have HBX : Hid (w1.heap[w.heap.size]? = some (.cells #[.int .i64 kind, .string (mkT fr), .string (mkT to), .int .i64 at', .slice ua ks.length uc] 30 (0, 0))) := hbx
  have HD1 : Hid (DK w1 d S (fun k => K k ∨ k = w.heap.size) gs) := by rw [hw1]; exact h.new1 _
  have HK1 : Hid (Keeps K w w1) := Keeps.of_below HB1.out h.Kb
  have HFI : Hid (∀ (S' : DS) (gs' : List Nat) (w2 : World), DK w2 d S' (fun k => K k ∨ k = w.heap.size) gs' → Keeps (fun k => K k ∨ k = w.heap.size) w1 w2 → DK w2 d S' K gs' ∧ Keeps K w w2) := fun S' gs' w2 h1 h2 => ⟨h1.less (fun k hk => .inl hk), HK1.out.trans (h2.mono (fun k hk => .inl hk))⟩
  have HU1 : Hid (KSl w1 (.slice ua ks.length uc) ks) := hu.below HB1.out
  have HS : Hid (SI S i) := hS
  have hl1 := hS.len1
  have hl2 := hS.len2
  clear h hu hS hbx
  by_cases k1 : kind = 1
  · subst k1
    have hbx := HBX.out
    have b1 : w1.cell? ⟨w.heap.size, 1, none⟩ = some (.string (mkT fr)) := (cell_of_row _ _ _ _ _ _ hbx).trans rfl
    have b2 : w1.cell? ⟨w.heap.size, 2, none⟩ = some (.string (mkT to)) := (cell_of_row _ _ _ _ _ _ hbx).trans rfl
    have htl : (to.take 60).length ≤ 60 := by rw [List.length_take]; omega
    have HAP : Hid (Calls _ _ _ _ _) := append_any fr (to.take 60) w1.drew (HD1.out.below (Below.refl _ _).drew) ok3 (by omega) (by omega) (by omega)
    have HKP : Hid (∀ w5, Keeps (fun k => K k ∨ k = w.heap.size) w1.drew w5 → w5.cell? ⟨w.heap.size, 1, none⟩ = some (.string (mkT fr)) ∧ w5.cell? ⟨w.heap.size, 2, none⟩ = some (.string (mkT to))) := fun w5 h => ⟨(h.cell (.inr rfl) 1).trans b1, (h.cell (.inr rfl) 2).trans b2⟩
    clear hbx
    go_enter Try.func8, Try.ntmps8
    go_wp2
    rw [← hw1]
    clear hw1
    go_region_held3 (fun w' : World => w'.cell? ⟨w.heap.size, 1, none⟩ = some (.string (mkT fr)) ∧ w'.cell? ⟨w.heap.size, 2, none⟩ = some (.string (mkT to))) (first | exact ⟨b1, b2⟩ | exact HKP.out _ hk5) ((first | (go_at_call 19; refine (few60 to _ ok4).mono ?_; rintro e w4 ⟨rfl, e4⟩; have e5 := e4.symm; subst e5) | (go_at_call 9; refine HAP.out.mono ?_; rintro e w5 ⟨rfl, ⟨g5, gs5, hd5, _, _⟩, hk5⟩)))
    all_goals
      have HF5 : Hid _ := HFI.out _ _ w5 hd5 ⟨hk5.os, hk5.tape, hk5.output, hk5.size, hk5.block⟩
      clear hd5 hk5
      go_wp2
      go_ret
      exact ⟨_, _, _, rfl, HS.out.ap hf htl g5, HF5.out.1, HF5.out.2⟩
  have hbx := HBX.out
  have b1 : w1.cell? ⟨w.heap.size, 1, none⟩ = some (.string (mkT fr)) := (cell_of_row _ _ _ _ _ _ hbx).trans rfl
  have b2 : w1.cell? ⟨w.heap.size, 2, none⟩ = some (.string (mkT to)) := (cell_of_row _ _ _ _ _ _ hbx).trans rfl
  have b3 : w1.cell? ⟨w.heap.size, 3, none⟩ = some (.int .i64 at') := (cell_of_row _ _ _ _ _ _ hbx).trans rfl
  have b4 : w1.cell? ⟨w.heap.size, 4, none⟩ = some (.slice ua ks.length uc) := (cell_of_row _ _ _ _ _ _ hbx).trans rfl
  clear hbx
  have q1 : (kind == 1) = false := beq_eq_false_iff_ne.2 k1
  by_cases k2 : kind = 2
  · subst k2
    have HC : Hid (Calls Try.prog _ _ _ _) := sync_any fr w1 HD1.out ok3
    go_enter Try.func8, Try.ntmps8
    go_wp2_with fail
    rw [← hw1]
    refine HC.out.mono ?_
    rintro e w5 ⟨rfl, hd5, hk5⟩
    have HF5 : Hid _ := HFI.out _ _ w5 hd5 hk5
    clear hd5 hk5 hw1
    go_wp2
    go_ret
    exact ⟨_, _, _, rfl, HS.out.sy fr, HF5.out.1, HF5.out.2⟩
  have q2 : (kind == 2) = false := beq_eq_false_iff_ne.2 k2
  by_cases k3 : kind = 3
  · subst k3
    have HC : Hid (Calls Try.prog _ _ _ _) := rename_any fr to w1 HD1.out ok3 ok4 (by omega) (by omega)
    go_enter Try.func8, Try.ntmps8
    go_wp2_with fail
    rw [← hw1]
    refine HC.out.mono ?_
    rintro e w5 ⟨rfl, hd5, hk5⟩
    have HF5 : Hid _ := HFI.out _ _ w5 hd5 hk5
    clear hd5 hk5 hw1
    go_wp2
    go_ret
    exact ⟨_, _, _, rfl, HS.out.rn hf ht, HF5.out.1, HF5.out.2⟩
  have q3 : (kind == 3) = false := beq_eq_false_iff_ne.2 k3
  by_cases k4 : kind = 4
  · subst k4
    have HC : Hid (Calls Try.prog _ _ _ _) := remove_any fr w1 HD1.out ok3 (by omega) (by omega)
    go_enter Try.func8, Try.ntmps8
    go_wp2_with fail
    rw [← hw1]
    refine HC.out.mono ?_
    rintro e w5 ⟨rfl, hd5, hk5⟩
    have HF5 : Hid _ := HFI.out _ _ w5 hd5 hk5
    clear hd5 hk5 hw1
    go_wp2
    go_ret
    exact ⟨_, _, _, rfl, HS.out.rm hf, HF5.out.1, HF5.out.2⟩
  have q4 : (kind == 4) = false := beq_eq_false_iff_ne.2 k4
  by_cases k5 : kind = 5
  · subst k5
    have HC : Hid (Calls Try.prog _ _ _ _) := settle_any w1 HD1.out
    go_enter Try.func8, Try.ntmps8
    go_wp2_with fail
    rw [← hw1]
    refine HC.out.mono ?_
    rintro e w5 ⟨rfl, hd5, hk5⟩
    have HF5 : Hid _ := HFI.out _ _ w5 hd5 hk5
    clear hd5 hk5 hw1
    go_wp2
    go_ret
    exact ⟨_, _, _, rfl, HS.out.se, HF5.out.1, HF5.out.2⟩
  have q5 : (kind == 5) = false := beq_eq_false_iff_ne.2 k5
  have q6 : (kind == 6) = false := beq_eq_false_iff_ne.2 hk
  by_cases k7 : kind = 7
  · subst k7
    have HC : Hid (Calls Try.prog _ _ _ _) := spoil_any fr at' (UInt8.ofNat to.length) w1 HD1.out ok3 ok2.1 ok2.2
    have hms : ((mkT to).size : Int) = (to.length : Int) := by rw [mkT_size]
    have hw8 : IntKind.u8.wrap (to.length : Int) = ((UInt8.ofNat to.length).toNat : Int) := by rw [IntKind.wrap_u8, UInt8.toNat_ofNat']; omega
    go_enter Try.func8, Try.ntmps8
    go_wp2_with fail
    rw [← hw1]
    refine HC.out.mono ?_
    rintro e w5 ⟨rfl, hd5, hk5⟩
    have HF5 : Hid _ := HFI.out _ _ w5 hd5 hk5
    clear hd5 hk5 hw1
    go_wp2
    go_ret
    exact ⟨_, _, _, rfl, HS.out.sp fr at' _, HF5.out.1, HF5.out.2⟩
  have q7 : (kind == 7) = false := beq_eq_false_iff_ne.2 k7
  by_cases k8 : kind = 8
  · subst k8
    have hsz1 : w1.heap.size = w.heap.size + 1 := by rw [hw1]; simp
    have HCN : Hid (∀ a' cap' w', KSl w' (.slice a' ks.length cap') ks → (∀ r, (Value.slice a' ks.length cap').ownBlock = some r → w1.heap.size ≤ r ∧ r < w'.heap.size) → Below w1.heap.size w1 w' → Calls Try.prog 12 #[.pointer (some ⟨d, 0, none⟩), .slice a' ks.length cap'] w' fun e w2 => e = .returned (.tuple #[]) ∧ DK w2 d (crS S ks) (fun k => K k ∨ k = w.heap.size) gs ∧ Keeps (fun k => K k ∨ k = w.heap.size) w1 w2) :=
      fun a' cap' w' g1 g2 g3 => crash_new ks _ w1 w' HD1.out g3 g1 g2 (by omega)
    go_enter Try.func8, Try.ntmps8
    go_wp2_with (first | (at_builtin; rw [← hw1]; go_must (refine wpList_copy rfl _ _ rfl (.slice ua ks.length uc) ks (by rw [hsz1]; rfl) rfl HU1.out ok5 ?_); intro a' cap' w4 g1 g2 g3) | (go_at_call 12; refine (HCN.out a' cap' _ g1 g2 g3).mono ?_; rintro e w5 ⟨rfl, hd5, hk5⟩; have HF5 : Hid _ := HFI.out _ _ w5 hd5 hk5; clear hd5 hk5 g1 g2 g3) | go_in)
    go_ret
    exact ⟨0, _, _, rfl, HS.out.cr ks, HF5.out.1, HF5.out.2⟩
  have q8 : (kind == 8) = false := beq_eq_false_iff_ne.2 k8
  have HF5 : Hid _ := HFI.out _ _ w1 HD1.out (Keeps.refl _ _)
  go_enter Try.func8, Try.ntmps8
  go_wp2
  go_ret
  rw [← hw1]
  exact ⟨0, _, _, rfl, HS.out.up, HF5.out.1, HF5.out.2⟩
end Go.Proofs.Ytgpfbahmkbdjmab
