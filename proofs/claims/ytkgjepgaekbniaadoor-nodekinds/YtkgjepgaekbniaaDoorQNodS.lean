/- Contracts of the reader's take, text and sums. -/
import Derived.Test.YtkgjepgaekbniaaDoorQNodR
namespace Go.Proofs.YtkgjepgaekbniaaDoor
open Go.RowKit
set_option linter.unusedVariables false
set_option linter.unusedSimpArgs false

theorem mkB_list2 (a : List UInt8) : (mkB a).toList = a := by
  rw [ByteArray.toList_eq]; rfl
theorem cloneB_any (l : List UInt8) (w : World) (hl : l.length ≤ 140737488351232) :
    Calls Tryd.prog 43 #[.string (mkB l)] w fun e w' => e = .returned (.string (mkB l)) ∧ Below w.heap.size w w' := clone_any (mkB l) w (by rw [mkB_size]; exact hl)
set_option maxRecDepth 100000 in
set_option maxHeartbeats 1000000 in
theorem rtake_any (g : Nat) (s : St) (k : Nat) (w : World) (h : RD w g s) (hl : s.rest.length ≤ 1000000000) (hk : k ≤ 9223372036854775807) :
    Calls Tryd.prog 60 #[.pointer (some ⟨g, 0, none⟩), .int .i64 (k : Int)] w fun e w' => e = .returned (.string (mkB (rTake k s).1)) ∧ RD w' g (rTake k s).2 ∧ w.grownBy w' (some g) := by
  have c0 := h.c0
  have c1 := h.c1
  have f0 := h.fz 0
  have hz := mkB_size s.rest
  have hki : (k : Int) ≤ 9223372036854775807 := by omega
  by_cases hf : s.f = 0
  case neg =>
    have HE : Hid (rTake k s = ([], s)) := by unfold Hid rTake; rw [if_pos hf]
    have hne : (s.f == 0) = false := beq_eq_false_iff_ne.2 hf
    have hne2 : (s.f != 0) = true := by rw [bne, hne]; rfl
    have HH : Hid (RD w g s) := h
    have HFE : Hid (rFail 6 s = s) := by unfold Hid rFail; rw [if_neg hf]
    have HF : Hid (Calls _ _ _ _ _) := fail_any g s 6 w h
    unfold Hid at HF
    rw [HFE.out] at HF
    clear h
    by_cases hkl : s.rest.length < k
    · have hkli : (s.rest.length : Int) < (k : Int) := by omega
      go_enter Tryd.func60, Tryd.ntmps60
      go_wp2_with fail
      refine (HF : Calls _ _ _ _ _).mono ?_
      rintro e w1 ⟨rfl, h1, k1⟩
      have d1 := h1.c1
      have HH1 : Hid (RD w1 g s) := h1
      clear h1 c0 c1
      go_wp2
      go_ret
      rw [HE.out]
      exact ⟨rfl, HH1.out, k1⟩
    · have hkli : ¬ (s.rest.length : Int) < (k : Int) := by omega
      go_enter Tryd.func60, Tryd.ntmps60
      go_wp2
      go_ret
      rw [HE.out]
      exact ⟨rfl, HH.out, nrefl w g⟩
  by_cases hkl : s.rest.length < k
  · have HE : Hid (rTake k s = ([], ⟨s.rest, 6⟩)) := by unfold Hid rTake; rw [if_neg (by simpa using hf), if_pos hkl]
    have hkli : (s.rest.length : Int) < (k : Int) := by omega
    have HFE : Hid (rFail 6 s = ⟨s.rest, 6⟩) := by unfold Hid rFail; rw [if_pos hf]
    have HF : Hid (Calls _ _ _ _ _) := fail_any g s 6 w h
    unfold Hid at HF
    rw [HFE.out] at HF
    clear h
    go_enter Tryd.func60, Tryd.ntmps60
    go_wp2_with fail
    refine (HF : Calls _ _ _ _ _).mono ?_
    rintro e w1 ⟨rfl, h1, k1⟩
    have d1 := h1.c1
    have HH1 : Hid (RD w1 g ⟨s.rest, 6⟩) := h1
    clear h1 c0 c1
    go_wp2
    go_ret
    rw [HE.out]
    exact ⟨rfl, HH1.out, k1⟩
  · have HE : Hid (rTake k s = (s.rest.take k, ⟨s.rest.drop k, 0⟩)) := by unfold Hid rTake; rw [if_neg (by simpa using hf), if_neg hkl]
    have hkli : ¬ (s.rest.length : Int) < (k : Int) := by omega
    have hkle : (k : Int) ≤ (s.rest.length : Int) := by omega
    have hx1 := extB_drop s.rest k
    have hx2 := extB_take s.rest k
    have htl : (s.rest.take k).length ≤ 1000000000 := by rw [List.length_take]; omega
    rw [hf] at c1
    have HH : Hid (RD w g s) := h
    clear h
    go_enter Tryd.func60, Tryd.ntmps60
    go_wp2_with fail
    refine (cloneB_any (s.rest.take k) _ (by omega)).mono ?_
    rintro e w1 ⟨rfl, hb1⟩
    have h1 := HH.out.below hb1
    have d0 := h1.c0
    have e0 := h1.fz 0
    have HR : Hid (RD (w1.setCell ⟨g, 0, none⟩ (.string (mkB (s.rest.drop k)))) g ⟨s.rest.drop k, 0⟩) := by
      have := h1.set0 (s.rest.drop k)
      rw [hf] at this
      exact this
    have HG : Hid (w.grownBy (w1.setCell ⟨g, 0, none⟩ (.string (mkB (s.rest.drop k)))) (some g)) := nset (nbelow hb1) 0 _
    clear h1 c0 c1 hb1 f0
    go_wp2
    go_ret
    rw [HE.out]
    exact ⟨rfl, HR.out, HG.out⟩
set_option maxRecDepth 100000 in
set_option maxHeartbeats 1000000 in
theorem rtext_any' (g : Nat) (s : St) (w : World) (h : RD w g s) (hl : s.rest.length ≤ 1000000000) :
    Calls Tryd.prog 48 #[.pointer (some ⟨g, 0, none⟩)] w fun e w' => e = .returned (.string (mkB (rText s).1)) ∧ RD w' g (rText s).2 ∧ w.grownBy w' (some g) := by
  have hn := rNum_le s
  have HE : Hid (rText s = rTake (rNum s).1 (rNum s).2) := rfl
  go_enter Tryd.func48, Tryd.ntmps48
  go_wp2_with fail
  refine (rnum_any g s _ h hl).mono ?_
  rintro e w1 ⟨rfl, h1, k1⟩
  go_wp2_with fail
  refine (rtake_any g (rNum s).2 (rNum s).1 _ h1 (by omega) (by omega)).mono ?_
  rintro e w2 ⟨rfl, h2, k2⟩
  go_wp2
  go_ret
  rw [HE.out]
  exact ⟨rfl, h2, ntrans k1 k2⟩
/-- A text in pieces of 32 bytes. -/
def ch32 : Nat → List UInt8 → List (List UInt8)
  | 0, _ => []
  | n + 1, l => if l = [] then [] else l.take 32 :: ch32 n (l.drop 32)
theorem ch32_nil (n : Nat) : ch32 n [] = [] := by cases n <;> simp [ch32]
theorem ch32_more : ∀ (n m : Nat) (l : List UInt8), l.length ≤ n → l.length ≤ m → ch32 n l = ch32 m l
  | 0, m, l, h, _ => by
    obtain rfl : l = [] := List.length_eq_zero_iff.1 (by omega)
    rw [ch32_nil, ch32_nil]
  | n + 1, 0, l, _, h => by
    obtain rfl : l = [] := List.length_eq_zero_iff.1 (by omega)
    rw [ch32_nil, ch32_nil]
  | n + 1, m + 1, l, h1, h2 => by
    rw [ch32, ch32]
    by_cases e : l = []
    · rw [if_pos e, if_pos e]
    · rw [if_neg e, if_neg e, ch32_more n m _ (by rw [List.length_drop]; have := List.length_pos_iff.2 e; omega) (by rw [List.length_drop]; have := List.length_pos_iff.2 e; omega)]
def rSums (s : St) : List (List UInt8) × St :=
  (ch32 (rTake ((rNum s).1 * 32) (rNum s).2).1.length (rTake ((rNum s).1 * 32) (rNum s).2).1, (rTake ((rNum s).1 * 32) (rNum s).2).2)
theorem rTake_mul (n : Nat) (s : St) : ∃ q, (rTake (n * 32) s).1.length = q * 32 := by
  unfold rTake
  split
  · exact ⟨0, rfl⟩
  · split
    · exact ⟨0, rfl⟩
    · exact ⟨n, by show (s.rest.take _).length = _; rw [List.length_take]; omega⟩
theorem OT.mono {w : World} {B B' : Nat} {v : Value} {l : List (List UInt8)} (h : OT w B v l) (hB : B' ≤ B) : OT w B' v l := by
  refine ⟨h.1, ?_⟩
  rcases h.2 with h | ⟨k, cap, cur, rfl, h2, h3, h4⟩
  · exact .inl h
  · exact .inr ⟨k, cap, cur, rfl, by omega, h3, h4⟩
theorem OT.grown {w w' : World} {B g : Nat} {v : Value} {l : List (List UInt8)} (h : OT w B v l) (hg : w.grownBy w' (some g)) (hB : g < B) : OT w' B v l := by
  have hlt := World.ownsRow.lt h
  refine ⟨h.1, ?_⟩
  rcases h.2 with h | ⟨k, cap, cur, rfl, h2, h3, h4⟩
  · exact .inl h
  · exact .inr ⟨k, cap, cur, rfl, h2, (hg.block _ (hlt k rfl).2 (fun e => by have := Option.some.inj e; omega)).trans h3, h4⟩
set_option maxRecDepth 100000 in
set_option maxHeartbeats 2000000 in
theorem rsums_any (g : Nat) (s : St) (w : World) (h : RD w g s) (hl : s.rest.length ≤ 1000000000) :
    Calls Tryd.prog 49 #[.pointer (some ⟨g, 0, none⟩)] w fun e w' => ∃ v, e = .returned v ∧ OT w' w.heap.size v (rSums s).1 ∧ RD w' g (rSums s).2 ∧ w.grownBy w' (some g) := by
  obtain ⟨i0, hi, hz0, hz1, hz2⟩ := info_parts Tryd.infoTx
  have hn := rNum_le s
  have hgw := h.lt
  have HE : Hid (rSums s = (ch32 (rTake ((rNum s).1 * 32) (rNum s).2).1.length (rTake ((rNum s).1 * 32) (rNum s).2).1, (rTake ((rNum s).1 * 32) (rNum s).2).2)) := rfl
  have htl := rTake_le ((rNum s).1 * 32) (rNum s).2
  have htm := rTake_mul (rNum s).1 (rNum s).2
  go_enter Tryd.func49, Tryd.ntmps49
  go_wp2_with fail
  refine (rnum_any g s _ h hl).mono ?_
  rintro e w1 ⟨rfl, h1, k1⟩
  have hm32 : ((rNum s).1 : Int) * 32 = (((rNum s).1 * 32 : Nat) : Int) := by omega
  have HT : Hid (Calls _ _ _ _ _) := rtake_any g (rNum s).2 ((rNum s).1 * 32) w1 h1 (by omega) (by omega)
  unfold Hid at HT
  clear h1
  generalize (rNum s).1 = N at *
  generalize hQ : N * 32 = Q at *
  have hQ9 : Q ≤ 35184372088832 := by omega
  have HQ : Hid (N * 32 = Q) := hQ
  clear hQ
  generalize (rTake Q (rNum s).2).1 = L at *
  generalize (rTake Q (rNum s).2).2 = S2 at *
  go_wp2_with fail
  refine (HT : Calls _ _ _ _ _).mono ?_
  rintro e w2 ⟨rfl, h2, k2⟩
  have HG2 : Hid (w.grownBy w2 (some g)) := ntrans k1 k2
  have HR2 : Hid (RD w2 g S2) := h2
  have hw2 : w.heap.size ≤ w2.heap.size := HG2.out.size
  clear k1 k2 h2 HT
  go_wp2
  go_loopw [3, 4] (fun u v wr => ∃ (m : List UInt8) (acc : List (List UInt8)), u = .string (mkB m) ∧ (∃ q, m.length = q * 32) ∧ m.length ≤ L.length ∧ acc.length + m.length ≤ L.length ∧ OT wr w2.heap.size v acc ∧ acc ++ ch32 m.length m = ch32 L.length L ∧ Below w2.heap.size w2 wr) (fun u _ _ => match u with | .string s => s.size | _ => 0)
  case atStart => exact ⟨L, [], rfl, htm, Nat.le_refl _, by simp, World.ownsRow_nil _ _ _ _, rfl, Below.refl _ _⟩
  case round =>
    obtain ⟨m, acc, rfl, hq, hml, hal, hO, hch, hb⟩ := hrel
    have hzm := mkB_size m
    have hwr := hb.size
    by_cases hne : m = []
    · have HC : Hid (acc = (rSums s).1) := by
        unfold Hid
        rw [HE.out, ← hch, hne, ch32_nil, List.append_nil]
      have HS : Hid (S2 = (rSums s).2) := by unfold Hid; rw [HE.out]
      subst hne
      have HO : Hid (OT wr w2.heap.size _ acc) := hO
      clear hch hO
      obtain ⟨va, vn, vc, hv⟩ : ∃ a n c, u4 = .slice a n c := by
        rcases HO.out.2 with ⟨hv, _⟩ | ⟨g', cap', cur, hv, _⟩
        · exact ⟨_, _, _, hv⟩
        · exact ⟨_, _, _, hv⟩
      subst hv
      have hmt : (mkB []) = ⟨#[]⟩ := rfl
      rw [hmt]
      go_wp2
      go_ret
      refine ⟨_, rfl, ?_, ?_, ?_⟩
      · rw [← HC.out]; exact HO.out.mono hw2
      · rw [← HS.out]; exact HR2.out.below hb
      · exact ntrans HG2.out (nbelow hb)
    · have hp := List.length_pos_iff.2 hne
      have h32 : 32 ≤ m.length := by obtain ⟨q, hq⟩ := hq; omega
      have h32i : (32 : Int) ≤ (m.length : Int) := by omega
      have hx1 := extB_drop m 32
      have hx2 := extB_take m 32
      have hne2 : (m == []) = false := by simpa using hne
      have hml2 := mkB_list2 m
      have HC : Hid ((acc ++ [m.take 32]) ++ ch32 (m.drop 32).length (m.drop 32) = ch32 L.length L) := by
        unfold Hid
        rw [← hch]
        obtain ⟨q, hq⟩ : ∃ q, m.length = q + 1 := ⟨m.length - 1, by omega⟩
        rw [hq, ch32, if_neg hne, ch32_more (m.drop 32).length q _ (Nat.le_refl _) (by rw [List.length_drop]; omega)]
        simp
      clear hch
      have hdl : (m.drop 32).length + 32 = m.length := by rw [List.length_drop]; omega
      have hdq : ∃ q, (m.drop 32).length = q * 32 := by obtain ⟨q, hq⟩ := hq; exact ⟨q - 1, by omega⟩
      unfold OT at hO
      go_wp2_with (at_builtin; refine wpList_append_own _ rfl _ _ 22 rfl w2.heap.size 9 i0 (.string ⟨#[]⟩) 1 16 Tryd.underlying22 hi hz0 hz1 hz2 rfl (by decide) _ _ _ rfl (hO.alloc _) _ 1 _ [.string (mkB (m.take 32))] rfl rfl ?c1 ?c5 ?c2 ?c3 ?c4 ?_)
      case c5 => intro y hy; simp at hy; subst hy; rfl
      case c1 =>
        intro j y hj
        match j, hj with
        | 0, hj => simp at hj; subst hj; simp [Addr.add_lit]
        | j + 1, hj => simp at hj
      case c2 => unfold maxLen; omega
      case c3 => omega
      case c4 => simp; omega
      intro v' w3 hown' hgrow' _
      have HB3 : Hid (Below w2.heap.size w2 w3) := (hb.alloc (by omega) _).grown hgrow' (by simp; omega) (fun j hj => (hO.lt j hj).1)
      have HO3 : Hid (OT w3 w2.heap.size v' (acc ++ [m.take 32])) := by
        unfold Hid OT
        rw [tc_snoc, List.length_append]
        exact hown'
      clear hown' hgrow' hO
      go_wp2
      go_roundw
      case rel => exact ⟨m.drop 32, acc ++ [m.take 32], rfl, hdq, by omega, by rw [List.length_append]; simp; omega, HO3.out, HC.out, HB3.out⟩
      case measure => show (m.drop 32).toArray.size < m.toArray.size; rw [List.size_toArray, List.size_toArray]; omega
end Go.Proofs.YtkgjepgaekbniaaDoor
