/- Contract: retain's keepTagged. -/
import Derived.Test.YtkfaoldpcgokiaaRetA
import Derived.Maps.OwnSet
import Derived.Deep.DeepCutAuto
namespace Go.Proofs.Ytkfaoldpcgokiaa
open Go.RowKit Go.Maps
set_option linter.unusedVariables false
set_option linter.unusedSimpArgs false

theorem keyT : Keyed Try.prog 9 := string_keyed Try.underlying9
theorem zeroU (w : World) : (zeroValue 50).run Try.prog w = .ok (.agg #[]) w := by kernel_rfl
/-- A set of texts in block B. -/
def StM (w : World) (B n : Nat) (fs : List (List UInt8)) : Prop :=
  ∃ D : DataW Unit, w.ownsMap Try.prog 9 unitElem B n D ∧ ∀ x : List UInt8, Maps.has D (.string x) = decide (x ∈ fs)
theorem StM.lt {w : World} {B n : Nat} {fs : List (List UInt8)} (h : StM w B n fs) : B < w.heap.size := by
  obtain ⟨D, h1, h2⟩ := h
  exact h1.lt
theorem StM.kept {w w' : World} {B n : Nat} {fs : List (List UInt8)} (h : StM w B n fs) (hb : w'.heap[B]? = w.heap[B]?) : StM w' B n fs := by
  obtain ⟨D, h1, h2⟩ := h
  refine ⟨D, ?_, h2⟩
  obtain ⟨es, clock, hbk, F⟩ := h1
  exact ⟨es, clock, hb.trans hbk, F⟩
theorem keyB (x : List UInt8) (hx : x.length ≤ 9223372036854775807) : keyOf Try.prog 9 (.string (mkB x)) = some (.string x) :=
  WideMaps.keyOf_string_mk Try.underlying9 (by rw [mkB_size]; unfold maxLen; omega)
theorem StM.put {w : World} {B n : Nat} {fs : List (List UInt8)} (h : StM w B n fs) (hn : n < maxLen) (x : List UInt8) (hx : x.length ≤ 9223372036854775807) :
    ∃ w', (Instr.mapUpdate 49 (.map (some B)) (.string (mkB x)) (.agg #[])).run Try.prog w = .ok () w' ∧ StM w' B (n + 1) (x :: fs) ∧ w.grownBy w' (some B) := by
  obtain ⟨D, h1, h2⟩ := h
  obtain ⟨w', r1, r2, r3⟩ := h1.update keyT Try.underlying49 hn (keyB x hx) (unitElem_mk (H := Unit))
  refine ⟨w', r1, ⟨_, r2, fun y => ?_⟩, r3⟩
  by_cases e : y = x
  · subst e
    rw [has_put_same h1.isMap (show WideAt.IsKeyLit (.string y) from trivial)]
    simp
  · rw [has_put_other (fun h => e (by injection h))]
    rw [h2 y]
    simp [e]
theorem StM.look {w : World} {B n : Nat} {fs : List (List UInt8)} (h : StM w B n fs) (x : List UInt8) (hx : x.length ≤ 9223372036854775807) :
    (Instr.lookup 49 (.map (some B)) (.string (mkB x)) true).run Try.prog w = .ok (.tuple #[.agg #[], .bool (decide (x ∈ fs))]) w := by
  obtain ⟨D, h1, h2⟩ := h
  obtain ⟨v, ps, hrun, hv⟩ := h1.look_ok keyT Try.underlying49 (zeroU w) (unitElem_mk (H := Unit)) (keyB x hx)
  obtain ⟨rfl, _⟩ := unitElem_inv hv
  rw [h2 x] at hrun
  exact hrun
theorem StM.new (w : World) : StM (w.alloc (.map #[] 0)) w.heap.size 0 [] :=
  ⟨.map [], World.ownsMap_made w _ _ _, fun x => by simp [Maps.has]⟩
/-- Is the tag at place i one of these? -/
def tgAt (tg : List (List UInt8)) (l : List Sn) (i : Nat) : Bool := (l[i]?.map fun x => decide (x.g ∈ tg)).getD false
theorem mem_take_succ {α : Type} [DecidableEq α] (l : List α) (j : Nat) (d : α) (hj : j < l.length) (y : α) : (y ∈ l.getD j d :: l.take j) ↔ y ∈ l.take (j + 1) := by
  rw [List.take_succ_eq_append_getElem hj, List.getD_eq_getElem?_getD, List.getElem?_eq_getElem hj]
  simp only [Option.getD_some, List.mem_cons, List.mem_append, List.not_mem_nil, or_false]
  constructor
  · rintro (h | h)
    · exact .inr h
    · exact .inl h
  · rintro (h | h)
    · exact .inr h
    · exact .inl h
theorem StM.eqv {w : World} {B n : Nat} {fs fs' : List (List UInt8)} (h : StM w B n fs) (e : ∀ y, y ∈ fs ↔ y ∈ fs') : StM w B n fs' := by
  obtain ⟨D, h1, h2⟩ := h
  exact ⟨D, h1, fun x => by rw [h2 x]; exact decide_eq_decide.2 (e x)⟩
set_option maxRecDepth 100000 in
set_option maxHeartbeats 2000000 in
theorem tagged_any (g n cap : Nat) (b : Nat → Bool) (v tv : Value) (l : List Sn) (tg : List (List UInt8)) (w : World) (hR : BR w g n b) (hn : n = l.length) (hnc : n ≤ cap) (hn2 : n ≤ 1000)
    (hV : SV w g v l) (hT : TV w g tv tg) (htn : tg.length ≤ 9223372036854775807) (htg : ∀ x ∈ tg, x.length ≤ 9223372036854775807) (hlg : ∀ x ∈ l, x.g.length ≤ 9223372036854775807) :
    Calls Try.prog 15 #[.slice (some ⟨g, 0, none⟩) n cap, v, tv] w fun e w' => e = .returned (.tuple #[]) ∧ BR w' g n (fun i => b i || tgAt tg l i) ∧ Below g w w' := by
  have HR : Hid (BR w g n b) := hR
  have HV : Hid (SV w g v l) := hV
  have HTV : Hid (TV w g tv tg) := hT
  obtain ⟨a0, vc, rfl, _, _⟩ := hV
  obtain ⟨ta, tc, rfl, _, _⟩ := hT
  have HN : Hid (n = l.length) := hn
  rw [← hn] at HV
  rw [← hn]
  obtain ⟨m, hm⟩ : ∃ m, m = tg.length := ⟨_, rfl⟩
  have HM : Hid (m = tg.length) := hm
  rw [← hm] at HTV htn
  rw [← hm]
  have HTG : Hid (∀ x ∈ tg, x.length ≤ 9223372036854775807) := htg
  have HLG : Hid (∀ x ∈ l, x.g.length ≤ 9223372036854775807) := hlg
  have hgw := hR.lt
  have hmm := @run_makeMap Try.prog
  have HS0 : Hid (StM (w.alloc (.map #[] 0)) w.heap.size 0 []) := StM.new w
  have hba : Below w.heap.size w (w.alloc (.map #[] 0)) := (Below.refl _ w).alloc (Nat.le_refl _) _
  have HB0 : Hid (Below g w (w.alloc (.map #[] 0))) := hba.mono (by omega)
  have HR0 : Hid (BR (w.alloc (.map #[] 0)) g n b) := hR.keep (hba.block g hgw)
  clear hn hm hR htg hlg hba
  have hzs := zeroSn
  have hzu := zeroU
  go_enter Try.func15, Try.ntmps15
  go_wp2
  go_loopw [16] (fun i wr => ∃ j : Nat, j ≤ m ∧ i = .int .i64 (j : Int) ∧ StM wr w.heap.size j (tg.take j) ∧ BR wr g n b ∧ Below g w wr) (fun i _ => m - (intOf i).toNat)
  case atStart => exact ⟨0, Nat.zero_le _, rfl, HS0.out, HR0.out, HB0.out⟩
  case round =>
    obtain ⟨j, hj, rfl, hs, hr, hb⟩ := hrel
    have HS : Hid (StM wr w.heap.size j (tg.take j)) := hs
    have HRR : Hid (BR wr g n b) := hr
    have HB : Hid (Below g w wr) := hb
    clear hs hr hb HS0 HR0 HB0
    by_cases hlt : j < m
    · have hlti : (j : Int) < (m : Int) := by omega
      have hjt : j < tg.length := by rw [← HM.out]; exact hlt
      obtain ⟨gg, o, rfl, hgB, hg, -, hcap, c0⟩ := (HTV.out.below HB.out).at hjt
      obtain ⟨w2, hput, hsm2, hgr⟩ := HS.out.put (by unfold maxLen; omega) (tg.getD j []) (HTG.out _ (by rw [List.getD_eq_getElem?_getD, List.getElem?_eq_getElem hjt]; exact List.getElem_mem _))
      have HS2 : Hid (StM w2 w.heap.size (j + 1) (tg.take (j + 1))) := hsm2.eqv (fun y => mem_take_succ tg j [] hjt y)
      have HB2 : Hid (Below g w w2) := HB.out.grown hgr (by have := HRR.out.lt; omega) (fun k hk => by cases hk; omega)
      have HR2 : Hid (BR w2 g n b) := HRR.out.keep (hgr.block g HRR.out.lt (by simp; omega))
      generalize tg.getD j [] = tj at *
      clear hsm2 hgr
      go_wp2
      go_roundw
      case rel => exact ⟨j + 1, by omega, by go_num, HS2.out, HR2.out, HB2.out⟩
      case measure => simp [intOf]; omega
    · have hlti : ¬ (j : Int) < (m : Int) := by omega
      have HS2 : Hid (StM wr w.heap.size j tg) := by
        have := HS.out
        rw [List.take_of_length_le (by rw [← HM.out]; omega)] at this
        exact this
      clear HS
      go_wp2
      go_loopw [26] (fun i wr => ∃ k : Nat, k ≤ n ∧ i = .int .i64 (k : Int) ∧ StM wr w.heap.size j tg ∧ BR wr g n (fun i => b i || (decide (i < k) && tgAt tg l i)) ∧ Below g w wr) (fun i _ => n - (intOf i).toNat)
      case atStart => exact ⟨0, Nat.zero_le _, rfl, HS2.out, HRR.out.eq (fun i hi => by simp), HB.out⟩
      case round =>
        obtain ⟨k, hk, rfl, hs, hr, hb⟩ := hrel
        clear HS2 HRR HB
        have HS : Hid (StM wr w.heap.size j tg) := hs
        have HRR : Hid (BR wr g n (fun i => b i || (decide (i < k) && tgAt tg l i))) := hr
        have HB : Hid (Below g w wr) := hb
        clear hs hr hb
        by_cases hlk : k < n
        · have hlki : (k : Int) < (n : Int) := by omega
          obtain ⟨x, hx⟩ : ∃ x, l[k]? = some x := ⟨_, List.getElem?_eq_getElem (by rw [← HN.out]; exact hlk)⟩
          obtain ⟨gg, o, rfl, hgB, hg, -, hcap, c0, c1, c2⟩ := (HV.out.below HB.out).at hx
          have HTA : Hid (tgAt tg l k = decide (x.g ∈ tg)) := by unfold Hid tgAt; rw [hx]; rfl
          have hxg : x.g.length ≤ 9223372036854775807 := HLG.out x (List.mem_of_getElem? hx)
          obtain ⟨W2, hW2⟩ : ∃ W2, W2 = wr.alloc (.cells #[.string (mkB x.i), .int .i64 x.t, .string (mkB x.g)] 39) := ⟨_, rfl⟩
          have hb2 : Below wr.heap.size wr W2 := by rw [hW2]; exact (Below.refl _ _).alloc (Nat.le_refl _) _
          have hnew : W2.heap[wr.heap.size]? = some (.cells #[.string (mkB x.i), .int .i64 x.t, .string (mkB x.g)] 39 (0, 0)) := by rw [hW2]; exact heap_alloc_new wr _
          have b2 : W2.cell? ⟨wr.heap.size, 2, none⟩ = some (.string (mkB x.g)) := by unfold World.cell?; rw [hnew]; rfl
          have hsz2 : wr.heap.size < W2.heap.size := (Array.getElem?_eq_some_iff.1 hnew).1
          have hgl := HRR.out.lt
          have hsl := HS.out.lt
          have HS2 : Hid (StM W2 w.heap.size j tg) := HS.out.kept (hb2.block _ hsl)
          have hlook := HS2.out.look x.g hxg
          obtain ⟨W3, hW3⟩ : ∃ W3, W3 = W2.alloc (.cells #[] 50) := ⟨_, rfl⟩
          have hb3 : Below W2.heap.size W2 W3 := by rw [hW3]; exact (Below.refl _ _).alloc (Nat.le_refl _) _
          have hb23 : Below wr.heap.size wr W3 := hb2.trans (hb3.mono hb2.size)
          have HS3 : Hid (StM W3 w.heap.size j tg) := HS.out.kept (hb23.block _ hsl)
          have hR3 : BR W3 g n (fun i => b i || (decide (i < k) && tgAt tg l i)) := HRR.out.keep (hb23.block _ hgl)
          have HB3 : Hid (Below g w W3) := HB.out.trans (hb23.mono (by omega))
          have hgl3 := hR3.lt
          have cc := hR3.cell k hlk
          have f0 := hR3.fz k
          have HW2 : Hid (wr.alloc (.cells #[.string (mkB x.i), .int .i64 x.t, .string (mkB x.g)] 39) = W2) := hW2.symm
          have HW3 : Hid (W2.alloc (.cells #[] 50) = W3) := hW3.symm
          clear hb2 hnew hb3 hb23 HS2 hx hW2 hW3
          generalize (b k || (decide (k < k) && tgAt tg l k)) = bk at cc
          by_cases hin : x.g ∈ tg
          · rw [decide_eq_true hin] at hlook
            have HR4 : Hid (BR (W3.setCell ⟨g, k, none⟩ (.bool true)) g n (fun i => b i || (decide (i < k + 1) && tgAt tg l i))) := hR3.set k _ (fun i hi => by
              by_cases e : i = k
              · subst e; rw [if_pos rfl, HTA.out, decide_eq_true hin]; simp
              · rw [if_neg e, show decide (i < k + 1) = decide (i < k) from decide_eq_decide.2 (by omega)])
            have HB4 : Hid (Below g w (W3.setCell ⟨g, k, none⟩ (.bool true))) := HB3.out.setCell (by simp) _
            have HS4 : Hid (StM (W3.setCell ⟨g, k, none⟩ (.bool true)) w.heap.size j tg) := HS3.out.kept (by
              have : ¬ g = w.heap.size := by omega
              simp [World.setCell, Array.getElem?_modify, this])
            clear hin hR3
            go_upto_region 9 with fail
            rw [show wr.alloc (.cells #[.string (mkB x.i), .int .i64 x.t, .string (mkB x.g)] 39) = W2 from HW2.out]
            go_upto_region 10 with fail
            rw [show W2.alloc (.cells #[] 50) = W3 from HW3.out]
            clear c0 c1 c2 b2 hlook
            go_wp2
            go_roundw
            case rel => exact ⟨k + 1, by omega, by go_num, HS4.out, HR4.out, HB4.out⟩
            case measure => simp [intOf]; omega
          · rw [decide_eq_false hin] at hlook
            have HR4 : Hid (BR W3 g n (fun i => b i || (decide (i < k + 1) && tgAt tg l i))) := hR3.eq (fun i hi => by
              by_cases e : i = k
              · subst e; rw [HTA.out, decide_eq_false hin]; simp
              · rw [show decide (i < k + 1) = decide (i < k) from decide_eq_decide.2 (by omega)])
            clear hin hR3
            go_upto_region 9 with fail
            rw [show wr.alloc (.cells #[.string (mkB x.i), .int .i64 x.t, .string (mkB x.g)] 39) = W2 from HW2.out]
            go_upto_region 10 with fail
            rw [show W2.alloc (.cells #[] 50) = W3 from HW3.out]
            clear c0 c1 c2 b2 hlook
            go_wp2
            go_roundw
            case rel => exact ⟨k + 1, by omega, by go_num, HS3.out, HR4.out, HB3.out⟩
            case measure => simp [intOf]; omega
        · have hlki : ¬ (k : Int) < (n : Int) := by omega
          have HR4 : Hid (BR wr g n (fun i => b i || tgAt tg l i)) := HRR.out.eq (fun i hi => by rw [decide_eq_true (by omega), Bool.true_and])
          go_wp2
          go_end0
          exact ⟨rfl, HR4.out, HB.out⟩
end Go.Proofs.Ytkfaoldpcgokiaa
