/- cellarerref12.Same: two rows of records. -/
import Derived.Test.YtkgjepgaekbniaaDoorQNodHt
import Derived.Deep.QuietTactic
import Derived.BigQuiet
namespace Go.Proofs.YtkgjepgaekbniaaDoor
open Go.RowKit
set_option linter.unusedVariables false
set_option linter.unusedSimpArgs false

/-- v is a slice that shows these records. -/
def RV (w : World) (v : Value) (l : List RcV) : Prop :=
  (v = .slice none 0 0 ∧ l = []) ∨ ∃ g cap, v = .slice (some ⟨g, 0, none⟩) l.length cap ∧ l.length ≤ cap ∧ ∀ i x, l[i]? = some x → (∀ j vv, (x.1.cells x.2)[j]? = some vv → w.cell? ⟨g, i * 7 + j, none⟩ = some vv) ∧ TR w x.2 x.1.ch
theorem RO.rv {w : World} {B : Nat} {v : Value} {l : List RcV} (h : RO w B v l) : RV w v l := by
  rcases h.1.2 with ⟨rfl, h0⟩ | ⟨g, cap, cur, rfl, h2, h3, h4, _⟩
  · exact .inl ⟨rfl, List.length_eq_zero_iff.1 h0⟩
  · refine .inr ⟨g, cap, rfl, h4, fun i x hx => ⟨fun j vv hv => ?_, (h.2 x (List.mem_of_getElem? hx)).tr⟩⟩
    have hi : i < l.length := (List.getElem?_eq_some_iff.1 hx).1
    have hj : j < 7 := (List.getElem?_eq_some_iff.1 hv).1
    rw [World.ownsRow.cellAt h.1 (i * 7 + j) (by omega)]
    exact rcF_at l i x hx j vv hv
theorem RV.form {w : World} {v : Value} {l : List RcV} (h : RV w v l) : ∃ a c, v = .slice a l.length c := by
  rcases h with ⟨rfl, rfl⟩ | ⟨g, cap, rfl, _⟩
  · exact ⟨none, 0, rfl⟩
  · exact ⟨_, _, rfl⟩
theorem RV.at {w : World} {a : Option Addr} {n c : Nat} {l : List RcV} (h : RV w (.slice a n c) l) (k : Nat) (hk : k < l.length) : ∃ g x, a = some ⟨g, 0, none⟩ ∧ l[k]? = some x ∧ (l.map Prod.fst).getD k default = x.1 ∧ ∃ ua uc, x.2 = .slice ua x.1.ch.length uc ∧ TR w (.slice ua x.1.ch.length uc) x.1.ch ∧ ∀ W, Below w.heap.size w W → (∀ j vv, (x.1.cells (.slice ua x.1.ch.length uc))[j]? = some vv → W.cell? ⟨g, k * 7 + j, none⟩ = some vv) := by
  rcases h with ⟨_, rfl⟩ | ⟨g, cap, hv, _, hc⟩
  · simp at hk
  · simp only [Value.slice.injEq] at hv
    obtain ⟨rfl, _⟩ := hv
    have hx := List.getElem?_eq_getElem hk
    obtain ⟨h1, h2⟩ := hc k _ hx
    obtain ⟨ua, uc, hu, hu2, hu3⟩ := id h2
    refine ⟨g, l[k], rfl, hx, by rw [List.getD_eq_getElem?_getD, List.getElem?_map, hx]; rfl, ua, uc, hu, by rw [← hu]; exact h2, fun W hW j vv hv => ?_⟩
    rw [← hu] at hv
    have := h1 j vv hv
    rw [hW.cell (p := ⟨g, k * 7 + j, none⟩) (World.block_lt_of_cell? _ _ this)]; exact this
theorem take_sameR {α : Type} [Inhabited α] {l m : List α} {k : Nat} (hl : l.length = m.length) (hk : k < l.length) : l.take (k + 1) = m.take (k + 1) ↔ l.take k = m.take k ∧ l.getD k default = m.getD k default := by
  rw [take_snoc' l k default hk, take_snoc' m k default (by omega)]
  constructor
  · intro h
    have := List.append_inj' h rfl
    exact ⟨this.1, List.cons.inj this.2 |>.1⟩
  · rintro ⟨h, h'⟩; rw [h, h']
theorem take_all_ne {α : Type} {l m : List α} (k : Nat) (h : l.take k ≠ m.take k) : l ≠ m := fun e => h (by rw [e])
theorem mkB_beq (x y : List UInt8) : ((mkB x).toList == (mkB y).toList) = decide (x = y) := by
  have h : ∀ l : List UInt8, (mkB l).toList = l := fun l => by rw [ByteArray.toList_eq]; rfl
  rw [h, h]
  by_cases e : x = y
  · subst e; simp
  · rw [decide_eq_false e, beq_eq_false_iff_ne]; exact e
/-- Alike but for the chunks. -/
def AlkR (x y : Rc) : Prop := x.kind = y.kind ∧ x.at' = y.at' ∧ x.mode = y.mode ∧ x.time = y.time ∧ x.size = y.size ∧ x.tg = y.tg ∧ x.ch.length = y.ch.length
theorem AlkR.eq {x y : Rc} (h : AlkR x y) (hc : x.ch = y.ch) : x = y := by
  obtain ⟨a, b, c, d, e, f, g⟩ := x
  obtain ⟨a', b', c', d', e', f', g'⟩ := y
  obtain ⟨h1, h2, h3, h4, h5, h6, _⟩ := h
  simp only at h1 h2 h3 h4 h5 h6 hc
  subst h1 h2 h3 h4 h5 h6 hc; rfl
theorem AlkR.refl (x : Rc) : AlkR x x := ⟨rfl, rfl, rfl, rfl, rfl, rfl, rfl⟩
theorem TR.at {w : World} {a : Option Addr} {n c : Nat} {l : List (List UInt8)} (h : TR w (.slice a n c) l) (j : Nat) (hj : j < l.length) : ∃ b o, a = some ⟨b, o, none⟩ ∧ w.cell? ⟨b, o + j, none⟩ = some (.string (mkB (l.getD j []))) := by
  obtain ⟨a', c', hv, _, hc⟩ := h
  simp only [Value.slice.injEq] at hv
  obtain ⟨rfl, _, _⟩ := hv
  obtain ⟨x, rfl, hx⟩ := hc j hj
  obtain ⟨b, o, s⟩ := x
  have hs : s = none := by
    obtain ⟨x0, h0, h1⟩ := hc 0 (by omega)
    obtain rfl := Option.some.inj h0
    cases s with
    | none => rfl
    | some s => unfold World.cell? at h1; simp [Addr.add] at h1; split at h1 <;> simp at h1
  subst hs
  rw [Addr.add_mid] at hx
  exact ⟨b, o, rfl, hx⟩
set_option maxRecDepth 100000 in
set_option maxHeartbeats 8000000 in
theorem same_any (u1 u2 : Value) (l1 l2 : List RcV) (w : World) (h1 : RV w u1 l1) (h2 : RV w u2 l2) (hm : l1.length ≤ 8796093022208) (hc : ∀ x ∈ l1, x.1.ch.length ≤ 8796093022208) :
    Calls Tryd.prog 10 #[u1, u2] w fun e w' => ∃ b, e = .returned (.bool b) ∧ (b = true ↔ l1.map Prod.fst = l2.map Prod.fst) ∧ Below w.heap.size w w' := by
  have HR1 : Hid (RV w u1 l1) := h1
  have HR2 : Hid (RV w u2 l2) := h2
  have HC : Hid (∀ x ∈ l1, x.1.ch.length ≤ 8796093022208) := hc
  obtain ⟨a1, c1, rfl⟩ := h1.form
  obtain ⟨a2, c2, rfl⟩ := h2.form
  clear h1 h2 hc
  by_cases hn : l1.length = l2.length
  · have HN : Hid (l1.length = l2.length) := hn
    have k0 : ((l1.length : Int) == (l2.length : Int)) = true := by simp; omega
    rw [← hn]
    clear hn
    go_enter Tryd.func10, Tryd.ntmps10
    go_wp2
    go_loopw [16] (fun i wr => ∃ (k : Nat), k ≤ l1.length ∧ i = .int .i64 (k : Int) ∧ (l1.map Prod.fst).take k = (l2.map Prod.fst).take k ∧ Below w.heap.size w wr) (fun i _ => l1.length + 1 - (intOf i).toNat)
    case atStart => exact ⟨0, Nat.zero_le _, rfl, rfl, Below.refl _ _⟩
    case round =>
      obtain ⟨k, hk, rfl, htk, hB⟩ := hrel
      have HB : Hid (Below w.heap.size w wr) := hB
      have HTK : Hid (_ = _) := htk
      clear htk hB
      by_cases hlt : k < l1.length
      · obtain ⟨g1, x, rfl, hx, hgx, ua, ua', hxu, htx, hcx⟩ := HR1.out.at k hlt
        obtain ⟨g2, y, rfl, hy, hgy, ub, ub', hyu, hty, hcy⟩ := HR2.out.at k (by rw [← HN.out]; exact hlt)
        have HCY : Hid (∀ W, Below w.heap.size w W → _) := hcy
        have c0 := hcx wr HB.out 0 _ rfl
        have c1 := hcx wr HB.out 1 _ rfl
        have c2 := hcx wr HB.out 2 _ rfl
        have c3 := hcx wr HB.out 3 _ rfl
        have c4 := hcx wr HB.out 4 _ rfl
        have c5 := hcx wr HB.out 5 _ rfl
        have c6 := hcx wr HB.out 6 _ rfl
        rw [Nat.add_zero] at c0
        have hcl : x.1.ch.length ≤ 8796093022208 := HC.out _ (List.mem_of_getElem? hx)
        have HTX : Hid (TR w _ x.1.ch) := htx
        have HTY : Hid (TR w _ y.1.ch) := hty
        have HG : Hid ((l1.map Prod.fst).getD k default = x.1 ∧ (l2.map Prod.fst).getD k default = y.1) := ⟨hgx, hgy⟩
        clear hcx hcy hx hy hgx hgy htx hty hxu hyu
        generalize x.1 = X at *
        generalize y.1 = Y at *
        clear x y
        have hki : (k : Int) < (l1.length : Int) := by omega
        have hki0 : (0 : Int) ≤ (k : Int) := by omega
        go_upto_region 6 with fail
        clear c0 c1 c2 c3 c4 c5 c6
        have hA : Below wr.heap.size wr (wr.alloc (.cells #[.int .i64 X.kind, .string (mkB X.at'), .int .i64 X.mode, .int .i64 X.time, .int .i64 X.size, .slice ua X.ch.length ua', .string (mkB X.tg)] 24)) := (Below.refl _ _).alloc (Nat.le_refl _) _
        have hA2 := HB.out.trans (hA.mono HB.out.size)
        have hz1 := first_heap wr (.cells #[.int .i64 X.kind, .string (mkB X.at'), .int .i64 X.mode, .int .i64 X.time, .int .i64 X.size, .slice ua X.ch.length ua', .string (mkB X.tg)] 24) (.cells #[.int .i64 Y.kind, .string (mkB Y.at'), .int .i64 Y.mode, .int .i64 Y.time, .int .i64 Y.size, .slice ub Y.ch.length ub', .string (mkB Y.tg)] 24)
        have hz2 := heap_alloc_new (wr.alloc (.cells #[.int .i64 X.kind, .string (mkB X.at'), .int .i64 X.mode, .int .i64 X.time, .int .i64 X.size, .slice ua X.ch.length ua', .string (mkB X.tg)] 24)) (.cells #[.int .i64 Y.kind, .string (mkB Y.at'), .int .i64 Y.mode, .int .i64 Y.time, .int .i64 Y.size, .slice ub Y.ch.length ub', .string (mkB Y.tg)] 24)
        rw [World.size_alloc] at hz2
        have hBZ := hA2.alloc hA2.size (.cells #[.int .i64 Y.kind, .string (mkB Y.at'), .int .i64 Y.mode, .int .i64 Y.time, .int .i64 Y.size, .slice ub Y.ch.length ub', .string (mkB Y.tg)] 24)
        have HZ1 : Hid (_ = _) := hz1
        have HZ2 : Hid (_ = _) := hz2
        have HBZ : Hid (Below w.heap.size w _) := hBZ
        have d0 := HCY.out _ hA2 0 _ rfl
        have d1 := HCY.out _ hA2 1 _ rfl
        have d2 := HCY.out _ hA2 2 _ rfl
        have d3 := HCY.out _ hA2 3 _ rfl
        have d4 := HCY.out _ hA2 4 _ rfl
        have d5 := HCY.out _ hA2 5 _ rfl
        have d6 := HCY.out _ hA2 6 _ rfl
        rw [Nat.add_zero] at d0
        clear HCY hA hA2 hz1 hz2 hBZ
        go_upto_region 7 with fail
        clear d0 d1 d2 d3 d4 d5 d6
        generalize World.alloc (World.alloc wr _) _ = Z at *
        obtain ⟨c0, c1, c2, c3, c4, c5, c6, -⟩ := seven HZ1.out
        obtain ⟨d0, d1, d2, d3, d4, d5, d6, -⟩ := seven HZ2.out
        go_cut [73] (fun v9 wx => ∃ S0 : Bool, v9 = .bool S0 ∧ wx = Z ∧ Hid (S0 = false ↔ AlkR X Y))
        case first =>
          by_cases h0 : X.kind = Y.kind
          · have k0 : (X.kind == Y.kind) = true := by simpa using h0
            have j0 : (X.kind != Y.kind) = false := by rw [bne, k0]; rfl
            have H0 : Hid (X.kind = Y.kind) := h0
            clear h0
            by_cases h1 : X.at' = Y.at'
            · have k1 : ((mkB X.at').toList == (mkB Y.at').toList) = true := by rw [mkB_beq]; simpa using h1
              have j1 : ((mkB X.at').toList != (mkB Y.at').toList) = false := by rw [bne, k1]; rfl
              have H1 : Hid (X.at' = Y.at') := h1
              clear h1
              by_cases h2 : X.mode = Y.mode
              · have k2 : (X.mode == Y.mode) = true := by simpa using h2
                have j2 : (X.mode != Y.mode) = false := by rw [bne, k2]; rfl
                have H2 : Hid (X.mode = Y.mode) := h2
                clear h2
                by_cases h3 : X.time = Y.time
                · have k3 : (X.time == Y.time) = true := by simpa using h3
                  have j3 : (X.time != Y.time) = false := by rw [bne, k3]; rfl
                  have H3 : Hid (X.time = Y.time) := h3
                  clear h3
                  by_cases h4 : X.size = Y.size
                  · have k4 : (X.size == Y.size) = true := by simpa using h4
                    have j4 : (X.size != Y.size) = false := by rw [bne, k4]; rfl
                    have H4 : Hid (X.size = Y.size) := h4
                    clear h4
                    by_cases h5 : X.tg = Y.tg
                    · have k5 : ((mkB X.tg).toList == (mkB Y.tg).toList) = true := by rw [mkB_beq]; simpa using h5
                      have j5 : ((mkB X.tg).toList != (mkB Y.tg).toList) = false := by rw [bne, k5]; rfl
                      have H5 : Hid (X.tg = Y.tg) := h5
                      clear h5
                      by_cases h6 : X.ch.length = Y.ch.length
                      · have k6 : ((X.ch.length : Int) == (Y.ch.length : Int)) = true := by simp; omega
                        have j6 : ((X.ch.length : Int) != (Y.ch.length : Int)) = false := by rw [bne, k6]; rfl
                        have H6 : Hid (X.ch.length = Y.ch.length) := h6
                        clear h6
                        go_wp2
                        go_meet
                        exact ⟨false, rfl, rfl, ⟨fun _ => ⟨H0.out, H1.out, H2.out, H3.out, H4.out, H5.out, H6.out⟩, fun _ => rfl⟩⟩
                      · have k6 : ((X.ch.length : Int) == (Y.ch.length : Int)) = false := by simp; omega
                        have j6 : ((X.ch.length : Int) != (Y.ch.length : Int)) = true := by rw [bne, k6]; rfl
                        have H6 : Hid (¬ X.ch.length = Y.ch.length) := h6
                        clear h6
                        go_wp2
                        go_meet
                        exact ⟨true, rfl, rfl, ⟨(fun h => by cases h), fun h => absurd h.2.2.2.2.2.2 H6.out⟩⟩
                    · have k5 : ((mkB X.tg).toList == (mkB Y.tg).toList) = false := by rw [mkB_beq]; simpa using h5
                      have j5 : ((mkB X.tg).toList != (mkB Y.tg).toList) = true := by rw [bne, k5]; rfl
                      have H5 : Hid (¬ X.tg = Y.tg) := h5
                      clear h5
                      go_wp2
                      go_meet
                      exact ⟨true, rfl, rfl, ⟨(fun h => by cases h), fun h => absurd h.2.2.2.2.2.1 H5.out⟩⟩
                  · have k4 : (X.size == Y.size) = false := by simpa using h4
                    have j4 : (X.size != Y.size) = true := by rw [bne, k4]; rfl
                    have H4 : Hid (¬ X.size = Y.size) := h4
                    clear h4
                    go_wp2
                    go_meet
                    exact ⟨true, rfl, rfl, ⟨(fun h => by cases h), fun h => absurd h.2.2.2.2.1 H4.out⟩⟩
                · have k3 : (X.time == Y.time) = false := by simpa using h3
                  have j3 : (X.time != Y.time) = true := by rw [bne, k3]; rfl
                  have H3 : Hid (¬ X.time = Y.time) := h3
                  clear h3
                  go_wp2
                  go_meet
                  exact ⟨true, rfl, rfl, ⟨(fun h => by cases h), fun h => absurd h.2.2.2.1 H3.out⟩⟩
              · have k2 : (X.mode == Y.mode) = false := by simpa using h2
                have j2 : (X.mode != Y.mode) = true := by rw [bne, k2]; rfl
                have H2 : Hid (¬ X.mode = Y.mode) := h2
                clear h2
                go_wp2
                go_meet
                exact ⟨true, rfl, rfl, ⟨(fun h => by cases h), fun h => absurd h.2.2.1 H2.out⟩⟩
            · have k1 : ((mkB X.at').toList == (mkB Y.at').toList) = false := by rw [mkB_beq]; simpa using h1
              have j1 : ((mkB X.at').toList != (mkB Y.at').toList) = true := by rw [bne, k1]; rfl
              have H1 : Hid (¬ X.at' = Y.at') := h1
              clear h1
              go_wp2
              go_meet
              exact ⟨true, rfl, rfl, ⟨(fun h => by cases h), fun h => absurd h.2.1 H1.out⟩⟩
          · have k0 : (X.kind == Y.kind) = false := by simpa using h0
            have j0 : (X.kind != Y.kind) = true := by rw [bne, k0]; rfl
            have H0 : Hid (¬ X.kind = Y.kind) := h0
            clear h0
            go_wp2
            go_meet
            exact ⟨true, rfl, rfl, ⟨(fun h => by cases h), fun h => absurd h.1 H0.out⟩⟩
        case rest =>
          obtain ⟨S0, rfl, rfl, HE0⟩ := hcut
          clear c0 c1 c2 c3 c4 c6 d0 d1 d2 d3 d4 d6
          cases S0 with
          | true =>
            have HNE : Hid (¬ l1.map Prod.fst = l2.map Prod.fst) := by
              intro e
              have e2 := congrArg (fun l => l.getD k default) e
              simp only [HG.out.1, HG.out.2] at e2
              have := HE0.out.2 (by rw [e2]; exact AlkR.refl _)
              cases this
            go_wp2
            go_ret
            exact ⟨_, rfl, ⟨(fun h => by cases h), fun h => absurd h HNE.out⟩, HBZ.out⟩
          | false =>
            have HAL : Hid (AlkR X Y) := HE0.out.1 rfl
            have HLN : Hid (X.ch.length = Y.ch.length) := HAL.out.2.2.2.2.2.2
            have HTX2 : Hid (TR wc _ X.ch) := HTX.out.below HBZ.out
            have HTY2 : Hid (TR wc _ Y.ch) := HTY.out.below HBZ.out
            have HBW : Hid (∀ n, Below w.heap.size w (wc.drewN n)) := fun n => by
              have h := HBZ.out
              exact ⟨h.os, h.tape, h.output, h.size, h.block⟩
            clear HE0 HTX HTY HZ1 HZ2 HB
            go_wp2
            go_loopw [77] (fun i wr => ∃ (j nd : Nat), i = .int .i64 (j : Int) ∧ j ≤ X.ch.length ∧ X.ch.take j = Y.ch.take j ∧ wr = wc.drewN nd) (fun i _ => X.ch.length + 1 - (intOf i).toNat)
            case atStart => exact ⟨0, 0, rfl, Nat.zero_le _, rfl, rfl⟩
            case round =>
              obtain ⟨j, nd, rfl, hj, htj, rfl⟩ := hrel
              have HTJ : Hid (_ = _) := htj
              clear htj
              by_cases hlj : j < X.ch.length
              · obtain ⟨b1, o1, rfl, e1⟩ := HTX2.out.at j hlj
                obtain ⟨b2, o2, rfl, e2⟩ := HTY2.out.at j (by rw [← HLN.out]; exact hlj)
                obtain ⟨v1, hv1⟩ : ∃ v, v = X.ch.getD j [] := ⟨_, rfl⟩
                obtain ⟨v2, hv2⟩ : ∃ v, v = Y.ch.getD j [] := ⟨_, rfl⟩
                rw [← hv1] at e1
                rw [← hv2] at e2
                have HV : Hid (v1 = X.ch.getD j [] ∧ v2 = Y.ch.getD j []) := ⟨hv1, hv2⟩
                have hji : (j : Int) < (X.ch.length : Int) := by omega
                have hji2 : (j : Int) < (Y.ch.length : Int) := by rw [← HLN.out]; exact hji
                have hji0 : (0 : Int) ≤ (j : Int) := by omega
                clear hv1 hv2
                by_cases hq : v1 = v2
                · have kq : ((mkB v1).toList == (mkB v2).toList) = true := by rw [mkB_beq]; simpa using hq
                  have jq : ((mkB v1).toList != (mkB v2).toList) = false := by rw [bne, kq]; rfl
                  have HQ : Hid (v1 = v2) := hq
                  clear hq
                  go_wp2
                  go_quiet (fail)
                  go_wp2
                  go_roundw
                  case rel =>
                    refine ⟨j + 1, _, by go_num, by omega, ?_, rfl⟩
                    exact (take_sameR HLN.out hlj).2 ⟨HTJ.out, by show X.ch.getD j [] = Y.ch.getD j []; rw [← HV.out.1, ← HV.out.2]; exact HQ.out⟩
                  case measure => simp [intOf]; omega
                · have kq : ((mkB v1).toList == (mkB v2).toList) = false := by rw [mkB_beq]; simpa using hq
                  have jq : ((mkB v1).toList != (mkB v2).toList) = true := by rw [bne, kq]; rfl
                  have HNE : Hid (¬ l1.map Prod.fst = l2.map Prod.fst) := by
                    intro e
                    have e2 := congrArg (fun l => l.getD k default) e
                    simp only [HG.out.1, HG.out.2] at e2
                    exact hq (by rw [HV.out.1, HV.out.2, e2])
                  clear hq
                  go_wp2
                  go_quiet (fail)
                  go_wp2
                  go_ret
                  exact ⟨_, rfl, ⟨(fun h => by cases h), fun h => absurd h HNE.out⟩, by have h := HBW.out nd; exact ⟨h.os, h.tape, h.output, h.size, h.block⟩⟩
              · have HXY : Hid (X = Y) := by
                  refine HAL.out.eq ?_
                  have h := HTJ.out
                  rw [List.take_of_length_le (by omega), List.take_of_length_le (by rw [← HLN.out]; omega)] at h
                  exact h
                have hji : ¬ (j : Int) < (X.ch.length : Int) := by omega
                go_wp2
                go_roundw
                case rel =>
                  refine ⟨k + 1, by omega, by go_num, ?_, HBW.out _⟩
                  refine (take_sameR (by rw [List.length_map, List.length_map]; exact HN.out) (by rw [List.length_map]; exact hlt)).2 ⟨HTK.out, ?_⟩
                  rw [HG.out.1, HG.out.2]; exact HXY.out
                case measure => simp [intOf]; omega
      · have hkn : k = l1.length := by omega
        have HE : Hid (l1.map Prod.fst = l2.map Prod.fst) := by
          have h := HTK.out
          rw [List.take_of_length_le (by rw [List.length_map]; omega), List.take_of_length_le (by rw [List.length_map, ← HN.out]; omega)] at h
          exact h
        clear hkn
        go_wp2
        go_ret
        exact ⟨_, rfl, ⟨fun _ => HE.out, fun _ => rfl⟩, HB.out⟩
  · have HN : Hid (¬ l1.length = l2.length) := hn
    have k0 : ((l1.length : Int) == (l2.length : Int)) = false := by simp; omega
    clear hn
    go_enter Tryd.func10, Tryd.ntmps10
    go_wp2
    go_ret
    exact ⟨_, rfl, ⟨(fun h => by cases h), fun h => absurd (by have := congrArg List.length h; simpa using this) HN.out⟩, Below.refl _ _⟩
end Go.Proofs.YtkgjepgaekbniaaDoor
