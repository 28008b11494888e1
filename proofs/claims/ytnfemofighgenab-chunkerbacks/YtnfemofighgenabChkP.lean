/- Contracts of the chunker's Close and of chunker.Split. -/
import Derived.Test.YtnfemofighgenabChkW
import Derived.Laws.AppendOwnNone
import Derived.Deep.Onto
namespace Go.Proofs.Ytnfemofighgenab
open Go.RowKit
set_option linter.unusedVariables false

theorem CF.close {f : Nat → Value} {mn bt mx : Nat} {T p : List UInt8} {cl : Bool} (h : CF f mn bt mx T p cl) (hp : p.length ≤ 4096) : CF (fun j => if j = 4118 then .bool true else f j) mn bt mx T p true := by
  obtain ⟨win, hw, hwf⟩ := h.win
  refine ⟨?_, ?_, ?_, ⟨win, hw, fun j hj => ?_⟩, ?_, ?_, fun j hj => ?_, fun j hj => ?_, ?_, ?_⟩
  · (try simp only); rw [if_neg (by omega)]; exact h.c0
  · (try simp only); rw [if_neg (by omega)]; exact h.c1
  · (try simp only); rw [if_neg (by omega)]; exact h.c2
  · (try simp only); rw [if_neg (by omega)]; exact hwf j hj
  · (try simp only); rw [if_neg (by omega)]; exact h.plc
  · (try simp only); rw [if_neg (by omega)]; exact h.fp
  · (try simp only); rw [if_neg (by omega)]; exact h.any j hj
  · (try simp only); rw [if_neg (by omega)]; exact h.buf j hj
  · (try simp only); rw [if_neg (by omega)]; exact h.len
  · simp
theorem OS.kept {w w' : World} {B : Nat} {v : Value} {l : List (List UInt8)} {row : Option Nat} (h : OS w B v l) (hg : w.grownBy w' row) (hne : v.ownBlock ≠ row) : OS w' B v l := World.ownsRow.kept h hg (.inr hne)
theorem OS.mono {w : World} {B C : Nat} {v : Value} {l : List (List UInt8)} (h : OS w B v l) (hC : C ≤ B) : OS w C v l := World.ownsRow.mono h hC
theorem OS.below {w w' : World} {B : Nat} {v : Value} {l : List (List UInt8)} (h : OS w B v l) (hb : Below w.heap.size w w') : OS w' B v l := by
  refine World.ownsRow.kept h (row := none) (gbelow hb) ?_
  cases hv : v.ownBlock
  · exact .inl rfl
  · exact .inr (by simp)
theorem OS.lt {w : World} {B : Nat} {v : Value} {l : List (List UInt8)} (h : OS w B v l) (k : Nat) (hk : v.ownBlock = some k) : B ≤ k ∧ k < w.heap.size := World.ownsRow.lt h k hk
set_option maxRecDepth 100000 in
set_option maxHeartbeats 1000000 in
theorem write_closed (g mn bt mx : Nat) (T p : List UInt8) (s : ByteArray) (w : World) (hC : CK w g mn bt mx T p true) :
    Calls Try.prog 12 #[.pointer (some ⟨g, 0, none⟩), .string s] w fun e w' => e = .returned (.slice none 0 0) ∧ w' = w := by
  have p8 : w.cell? ⟨g, 4118, none⟩ = some (.bool true) := by obtain ⟨f, hR, hF⟩ := hC; rw [hR.cell (by omega), hF.cls]
  go_enter Try.func12, Try.ntmps12
  go_wp2
  go_ret
  exact ⟨rfl, rfl⟩
set_option maxRecDepth 100000 in
set_option maxHeartbeats 1000000 in
theorem close_any (g mn bt mx : Nat) (T p : List UInt8) (cl : Bool) (w : World) (hC : CK w g mn bt mx T p cl) (hp : p.length ≤ 4096) :
    Calls Try.prog 13 #[.pointer (some ⟨g, 0, none⟩)] w fun e w' => ∃ v, e = .returned v ∧ OS w' w.heap.size v (lastC p) ∧ CK w' g mn bt mx T [] true ∧ w.grownBy w' (some g) := by
  obtain ⟨f, hR, hF⟩ := hC
  have p7 : w.cell? ⟨g, 4117, none⟩ = some (.int .i64 (p.length : Int)) := by rw [hR.cell (by omega), hF.len]
  have p8 : w.cell? ⟨g, 4118, none⟩ = some (.bool cl) := by rw [hR.cell (by omega), hF.cls]
  have f8 := hR.frozen 4118
  have hR2 := hR.set 4118 (.bool true)
  have hC2 : CK (w.setCell ⟨g, 4118, none⟩ (.bool true)) g mn bt mx T p true := ⟨_, hR2, hF.close hp⟩
  have hG2 : w.grownBy (w.setCell ⟨g, 4118, none⟩ (.bool true)) (some g) := gset (grefl w _) _ _
  clear hR hR2 hF
  by_cases h0 : p.length = 0
  · have hpe : p = [] := List.length_eq_zero_iff.1 h0
    subst hpe
    have HC2 : Hid _ := hC2
    have HG2 : Hid _ := hG2
    clear hC2 hG2
    go_enter Try.func13, Try.ntmps13
    go_wp2
    go_ret
    exact ⟨_, rfl, World.ownsRow_nil _ _ _ _, HC2.out, HG2.out⟩
  · have hz : ((p.length : Int) == 0) = false := by rw [beq_eq_false_iff_ne]; omega
    have HL : Hid (lastC p = [p]) := by
      unfold Hid lastC
      rw [if_neg]; intro e; rw [e] at h0; exact h0 rfl
    have HC2 : Hid _ := hC2
    have HG2 : Hid _ := hG2
    clear hC2 hG2
    go_enter Try.func13, Try.ntmps13
    go_wp2_with fail
    refine (cut_any g mn bt mx T p true _ HC2.out hp).mono ?_
    rintro e w2 ⟨rfl, hC2, hg2⟩
    have hG3 := gtrans HG2.out hg2
    have HO : Hid (OS (w2.alloc (.cells #[.string (bsU p)] 9)) w.heap.size (.slice (some ⟨w2.heap.size, 0, none⟩) 1 1) [p]) := World.ownsRow_lit w2 #[.string (bsU p)] 1 (by have := hG3.size; simpa using this) (by decide) rfl
    have HC3 : Hid (CK (w2.alloc (.cells #[.string (bsU p)] 9)) g mn bt mx T [] true) := hC2.kept (row := none) (World.grownBy_alloc w2 _ none) (by simp)
    have HG3 : Hid (w.grownBy (w2.alloc (.cells #[.string (bsU p)] 9)) (some g)) := galloc hG3 _
    clear hC2 hg2 hG3 HC2 HG2
    go_wp2
    go_ret
    rw [HL.out]
    exact ⟨_, rfl, HO.out, HC3.out, HG3.out⟩
set_option maxRecDepth 100000 in
set_option maxHeartbeats 1000000 in
theorem split_bad (s : ByteArray) (mn bt mx : Int) (w : World) (h : errC mn bt mx ≠ 0) :
    Calls Try.prog 14 #[.string s, .agg #[.int .i64 mn, .int .i64 bt, .int .i64 mx]] w fun e w' => e = .returned (.tuple #[.slice none 0 0, .int .i64 (errC mn bt mx : Nat)]) ∧ Below w.heap.size w w' := by
  have hB : Below w.heap.size w (w.alloc (.cells #[.int .i64 mn, .int .i64 bt, .int .i64 mx] 24)) := (Below.refl _ w).alloc (Nat.le_refl _) _
  have hn : (((errC mn bt mx : Nat) : Int) == 0) = false := by rw [beq_eq_false_iff_ne]; omega
  have HE : Hid _ := h
  clear h
  go_enter Try.func14, Try.ntmps14
  go_wp2_with fail
  refine (new_bad mn bt mx _ HE.out).mono ?_
  rintro e w1 ⟨rfl, hB1⟩
  have hB1 := hB.trans (hB1.mono hB.size)
  go_wp2
  go_ret2
  exact ⟨rfl, hB1⟩
theorem lastC_len (p : List UInt8) : (lastC p).length ≤ 1 := by unfold lastC; split <;> simp
theorem lastC_nil {p : List UInt8} (h : (lastC p).length = 0) : lastC p = [] := List.length_eq_zero_iff.1 h
set_option maxRecDepth 100000 in
set_option maxHeartbeats 2000000 in
theorem split_good (s : ByteArray) (mn bt mx : Nat) (w : World) (h : errC mn bt mx = 0) (hs : s.size ≤ 1000000) :
    Calls Try.prog 14 #[.string s, .agg #[.int .i64 (mn : Int), .int .i64 (bt : Int), .int .i64 (mx : Int)]] w fun e w' => ∃ v, e = .returned (.tuple #[v, .int .i64 0]) ∧ OS w' w.heap.size v (spl mn bt mx s.data.toList) ∧ Below w.heap.size w w' := by
  obtain ⟨i0, hi, hz0, hz1, hz2⟩ := info_parts Try.infoStr
  obtain ⟨e1, e2, e3, e4, e5⟩ := errC_zero h
  have hB : Below w.heap.size w (w.alloc (.cells #[.int .i64 (mn : Int), .int .i64 (bt : Int), .int .i64 (mx : Int)] 24)) := (Below.refl _ w).alloc (Nat.le_refl _) _
  go_enter Try.func14, Try.ntmps14
  go_wp2_with fail
  refine (new_good mn bt mx _ h).mono ?_
  rintro e w1 ⟨g, rfl, hC1, hg1, hB1⟩
  have hB1 := hB.trans (hB1.mono hB.size)
  have hgw : w.heap.size ≤ g := Nat.le_trans hB.size hg1
  clear hg1
  go_wp2_with fail
  refine (write_any g mn bt mx [] [] s _ hC1 (by simp; omega) (by omega) (by omega) (by omega) (by omega) hs).mono ?_
  rintro e w2 ⟨v2, rfl, hO2, hC2, hG2⟩
  have hll := ckW_left mn bt mx (by omega) s.data.toList [] [] (by simp; omega)
  have hln := ckW_len mn bt mx s.data.toList [] []
  rw [size_toList] at hln
  have hB2 := grown_below hB1 hG2 hB1.size hgw
  have hO2 := hO2.mono hB1.size
  have hgne : v2.ownBlock ≠ some g := fun e => by have := World.ownsRow.lt (show (w2.ownsRow w1.heap.size _ _ _ _ _) from ‹OS w2 w1.heap.size v2 _›) g e; have := hC1.lt; omega
  have HSP : Hid (spl mn bt mx s.data.toList = (ckW mn bt mx [] [] s.data.toList).1 ++ lastC (ckW mn bt mx [] [] s.data.toList).2) := rfl
  generalize (ckW mn bt mx [] [] s.data.toList).1 = CH at *
  generalize (ckW mn bt mx [] [] s.data.toList).2 = PD at *
  clear hC1 hG2 hB1
  obtain ⟨a2, c2, rfl⟩ : ∃ a c, v2 = .slice a CH.length c := by
    rcases hO2.2 with ⟨rfl, h0⟩ | ⟨g', cap, cur, rfl, _⟩
    · exact ⟨none, 0, by rw [h0]⟩
    · exact ⟨_, cap, rfl⟩
  go_wp2_with fail
  refine (close_any g mn bt mx _ PD false _ hC2 (by omega)).mono ?_
  rintro e w3 ⟨v3, rfl, hO3, hC3, hG3⟩
  have hO2 := hO2.kept hG3 hgne
  have hB3 := grown_below hB2 hG3 hB2.size hgw
  have hlc := lastC_len PD
  clear hC2 hG3 hgne
  rcases hO3.2 with ⟨rfl, h0⟩ | ⟨g', cap, cur, rfl, _, _⟩
  · have HE : Hid (spl mn bt mx s.data.toList = CH) := by rw [HSP.out, lastC_nil h0, List.append_nil]; exact rfl
    go_wp2_with (at_builtin; refine wpList_append_own_none rfl _ _ 22 rfl w.heap.size 9 i0 1 Try.underlying22 hi _ _ _ rfl hO2 rfl ?_)
    go_ret2
    exact ⟨_, rfl, by rw [HE.out]; exact hO2, hB3⟩
  · have hcell : ∀ j u, (sc (lastC PD))[j]? = some u → w3.cell? ((⟨g', 0, none⟩ : Addr).add j) = some u := fun j u hu => by
      have hj : j < (sc (lastC PD)).length := (List.getElem?_eq_some_iff.1 hu).1
      rw [sc_len] at hj
      rw [Addr.add_lit, Nat.zero_add, World.ownsRow.cellAt hO3 j (by omega)]; exact hu
    have HN : Hid _ := hcell
    have HL : Hid ((sc (lastC PD)).length = (lastC PD).length * 1) := by unfold Hid; rw [sc_len, Nat.mul_one]
    have H1 : Hid (∀ u ∈ sc (lastC PD), u.oneCell' = true) := by
      intro u hu
      simp [sc] at hu
      obtain ⟨_, _, rfl⟩ := hu; rfl
    clear hcell hO3
    generalize hq : (lastC PD).length = q at *
    generalize hq2 : CH.length = q2 at *
    have hO2' : w3.ownsRow w.heap.size 9 1 (.slice a2 q2 c2) q2 (sc CH) := by have := hO2; unfold OS at this; rwa [hq2] at this
    go_wp2_with (at_builtin; refine wpList_append_own _ rfl _ _ 22 rfl w.heap.size 9 i0 (.string ⟨#[]⟩) 1 16 Try.underlying22 hi hz0 hz1 hz2 rfl (by decide) _ _ _ rfl hO2' ⟨g', 0, none⟩ q cap (sc (lastC PD)) rfl HL.out HN.out H1.out ?c3 ?c4 ?c5 ?_)
    case c3 => unfold maxLen; omega
    case c4 => omega
    case c5 => exact hB3.size
    intro v' w6 hown' hgrow' _
    rw [← sc_append] at hown'
    have hB6 : Below w.heap.size w w6 := hB3.grown hgrow' hB3.size (fun k hk => (hO2'.lt k hk).1)
    have HE : Hid (OS w6 w.heap.size v' (spl mn bt mx s.data.toList)) := by
      unfold Hid OS
      rw [HSP.out, List.length_append, hq, hq2]; exact hown'
    clear hown' hgrow' hO2' hO2
    go_wp2
    go_ret2
    exact ⟨_, rfl, HE.out, hB6⟩
end Go.Proofs.Ytnfemofighgenab
