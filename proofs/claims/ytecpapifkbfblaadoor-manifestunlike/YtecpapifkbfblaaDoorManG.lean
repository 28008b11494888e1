/- Contract: the reader of a manifest: sums. -/
import Derived.Test.YtecpapifkbfblaaDoorManF
namespace Go.Proofs.YtecpapifkbfblaaDoor
open Go.RowKit
set_option linter.unusedVariables false
set_option linter.unusedSimpArgs false

def ch32 : Nat → List UInt8 → List (List UInt8)
  | 0, _ => []
  | n + 1, l => if l = [] then [] else l.take 32 :: ch32 n (l.drop 32)
theorem ch32_nil (n : Nat) : ch32 n [] = [] := by cases n <;> simp [ch32]
theorem ch32_more : ∀ (n m : Nat) (l : List UInt8), l.length ≤ n → l.length ≤ m → ch32 n l = ch32 m l
  | 0, m, l, h, _ => by
    obtain rfl : l = [] := List.length_eq_zero_iff.1 (by omega)
    rw [ch32_nil, ch32_nil]
  | n + 1, 0, l, _, h => by
    obtain rfl : l = [] := List.length_eq_zero_iff.1 (by omega)
    rw [ch32_nil, ch32_nil]
  | n + 1, m + 1, l, h1, h2 => by
    rw [ch32, ch32]
    by_cases e : l = []
    · rw [if_pos e, if_pos e]
    · rw [if_neg e, if_neg e, ch32_more n m _ (by rw [List.length_drop]; have := List.length_pos_iff.2 e; omega) (by rw [List.length_drop]; have := List.length_pos_iff.2 e; omega)]
/-- The next sums, and what is left. -/
def mSums (s : Sx) : List (List UInt8) × Sx := (ch32 (mTake ((mNum s).1 * 32) (mNum s).2).1.length (mTake ((mNum s).1 * 32) (mNum s).2).1, (mTake ((mNum s).1 * 32) (mNum s).2).2)
theorem mTake_mul (n : Nat) (s : Sx) : ∃ q, (mTake (n * 32) s).1.length = q * 32 := by
  unfold mTake
  split
  · exact ⟨0, rfl⟩
  · rename_i h
    exact ⟨n, by simp only [List.length_take]; omega⟩
theorem mTake_len (n : Nat) (s : Sx) : (mTake n s).1.length ≤ s.rest.length := by
  unfold mTake
  split
  · simp
  · simp only [List.length_take]; omega
theorem OT.mono {w : World} {B B' : Nat} {v : Value} {l : List (List UInt8)} (h : OT w B v l) (hB : B' ≤ B) : OT w B' v l := by
  refine ⟨h.1, ?_⟩
  rcases h.2 with h | ⟨k, cap, cur, rfl, h2, h3, h4⟩
  · exact .inl h
  · exact .inr ⟨k, cap, cur, rfl, by omega, h3, h4⟩
theorem OT.grown {w w' : World} {B g : Nat} {v : Value} {l : List (List UInt8)} (h : OT w B v l) (hg : w.grownBy w' (some g)) (hB : g < B) : OT w' B v l := by
  have hlt := World.ownsRow.lt h
  refine ⟨h.1, ?_⟩
  rcases h.2 with h | ⟨k, cap, cur, rfl, h2, h3, h4⟩
  · exact .inl h
  · exact .inr ⟨k, cap, cur, rfl, h2, (hg.block _ (hlt k rfl).2 (fun e => by have := Option.some.inj e; omega)).trans h3, h4⟩
theorem mkB_list2 (l : List UInt8) : (mkB l).toList = l := ByteArray.toList_eq _
set_option maxRecDepth 100000 in
set_option maxHeartbeats 2000000 in
theorem rsums_any (g : Nat) (s : Sx) (w : World) (h : RX w g s) (hl : s.rest.length ≤ 1000000000) :
    Calls Tryd.prog 59 #[.pointer (some ⟨g, 0, none⟩)] w fun e w' => ∃ v, e = .returned v ∧ OT w' w.heap.size v (mSums s).1 ∧ RX w' g (mSums s).2 ∧ w.grownBy w' (some g) := by
  obtain ⟨i0, hi, hz0, hz1, hz2⟩ := info_parts Tryd.infoSt
  have hn := mNum_le s
  have hnl := mNum_lt s
  have hgw := h.lt
  have HE : Hid (mSums s = (ch32 (mTake ((mNum s).1 * 32) (mNum s).2).1.length (mTake ((mNum s).1 * 32) (mNum s).2).1, (mTake ((mNum s).1 * 32) (mNum s).2).2)) := rfl
  have htl := mTake_len ((mNum s).1 * 32) (mNum s).2
  have htm := mTake_mul (mNum s).1 (mNum s).2
  go_enter Tryd.func59, Tryd.ntmps59
  go_wp2_with fail
  refine (rnum_any g s _ h hl).mono ?_
  rintro e w1 ⟨rfl, h1, k1⟩
  have hm32 : ((mNum s).1 : Int) * 32 = (((mNum s).1 * 32 : Nat) : Int) := by omega
  have HT : Hid (Calls _ _ _ _ _) := rtake_any g ((mNum s).1 * 32) (mNum s).2 w1 h1 (by omega) (by omega)
  unfold Hid at HT
  clear h1
  generalize (mNum s).1 = N at *
  generalize hQ : N * 32 = Q at *
  have hQ9 : Q ≤ 35184372088832 := by omega
  have HQ : Hid (N * 32 = Q) := hQ
  clear hQ
  generalize (mTake Q (mNum s).2).1 = L at *
  generalize (mTake Q (mNum s).2).2 = S2 at *
  go_wp2_with fail
  refine (HT : Calls _ _ _ _ _).mono ?_
  rintro e w2 ⟨rfl, h2, k2⟩
  have HG2 : Hid (w.grownBy w2 (some g)) := gtrans k1 k2
  have HR2 : Hid (RX w2 g S2) := h2
  have hw2 : w.heap.size ≤ w2.heap.size := HG2.out.size
  clear k1 k2 h2 HT
  go_wp2
  go_loopw [3, 4] (fun u v wr => ∃ (m : List UInt8) (acc : List (List UInt8)), u = .string (mkB m) ∧ (∃ q, m.length = q * 32) ∧ m.length ≤ L.length ∧ acc.length + m.length ≤ L.length ∧ OT wr w2.heap.size v acc ∧ acc ++ ch32 m.length m = ch32 L.length L ∧ Below w2.heap.size w2 wr) (fun u _ _ => match u with | .string s => s.size | _ => 0)
  case atStart => exact ⟨L, [], rfl, htm, Nat.le_refl _, by simp, World.ownsRow_nil _ _ _ _, rfl, Below.refl _ _⟩
  case round =>
    obtain ⟨m, acc, rfl, hq, hml, hal, hO, hch, hb⟩ := hrel
    have hzm := mkB_size m
    have hwr := hb.size
    by_cases hne : m = []
    · have HC : Hid (acc = (mSums s).1) := by
        unfold Hid
        rw [HE.out, ← hch, hne, ch32_nil, List.append_nil]
      have HS : Hid (S2 = (mSums s).2) := by unfold Hid; rw [HE.out]
      subst hne
      have HO : Hid (OT wr w2.heap.size _ acc) := hO
      clear hch hO
      obtain ⟨va, vn, vc, hv⟩ : ∃ a n c, u4 = .slice a n c := by
        rcases HO.out.2 with ⟨hv, _⟩ | ⟨g', cap', cur, hv, _⟩
        · exact ⟨_, _, _, hv⟩
        · exact ⟨_, _, _, hv⟩
      subst hv
      have hmt : (mkB []) = ⟨#[]⟩ := rfl
      rw [hmt]
      go_wp2
      go_ret
      refine ⟨_, rfl, ?_, ?_, ?_⟩
      · rw [← HC.out]; exact HO.out.mono hw2
      · rw [← HS.out]; exact HR2.out.kept hb
      · exact gtrans HG2.out (gbelow hb)
    · have hp := List.length_pos_iff.2 hne
      have h32 : 32 ≤ m.length := by obtain ⟨q, hq⟩ := hq; omega
      have h32i : (32 : Int) ≤ (m.length : Int) := by omega
      have hx1 := extX_drop m 32
      have hx2 := extX_take m 32
      have hne2 : (m == []) = false := by simpa using hne
      have hml2 := mkB_list2 m
      have HC : Hid ((acc ++ [m.take 32]) ++ ch32 (m.drop 32).length (m.drop 32) = ch32 L.length L) := by
        unfold Hid
        rw [← hch]
        obtain ⟨q, hq⟩ : ∃ q, m.length = q + 1 := ⟨m.length - 1, by omega⟩
        rw [hq, ch32, if_neg hne, ch32_more (m.drop 32).length q _ (Nat.le_refl _) (by rw [List.length_drop]; omega)]
        simp
      clear hch
      have hdl : (m.drop 32).length + 32 = m.length := by rw [List.length_drop]; omega
      have hdq : ∃ q, (m.drop 32).length = q * 32 := by obtain ⟨q, hq⟩ := hq; exact ⟨q - 1, by omega⟩
      unfold OT at hO
      go_wp2_with (at_builtin; refine wpList_append_own _ rfl _ _ 35 rfl w2.heap.size 9 i0 (.string ⟨#[]⟩) 1 16 Tryd.underlying35 hi hz0 hz1 hz2 rfl (by decide) _ _ _ rfl (hO.alloc _) _ 1 _ [.string (mkB (m.take 32))] rfl rfl ?c1 ?c5 ?c2 ?c3 ?c4 ?_)
      case c5 => intro y hy; simp at hy; subst hy; rfl
      case c1 =>
        intro j y hj
        match j, hj with
        | 0, hj => simp at hj; subst hj; simp [Addr.add_lit]
        | j + 1, hj => simp at hj
      case c2 => unfold maxLen; omega
      case c3 => omega
      case c4 => simp; omega
      intro v' w3 hown' hgrow' _
      have HB3 : Hid (Below w2.heap.size w2 w3) := (hb.alloc (by omega) _).grown hgrow' (by simp; omega) (fun j hj => (hO.lt j hj).1)
      have HO3 : Hid (OT w3 w2.heap.size v' (acc ++ [m.take 32])) := by
        unfold Hid OT
        rw [tc_snoc, List.length_append]
        exact hown'
      clear hown' hgrow' hO
      go_wp2
      go_roundw
      case rel => exact ⟨m.drop 32, acc ++ [m.take 32], rfl, hdq, by omega, by rw [List.length_append]; simp; omega, HO3.out, HC.out, HB3.out⟩
      case measure => show (m.drop 32).toArray.size < m.toArray.size; rw [List.size_toArray, List.size_toArray]; omega
end Go.Proofs.YtecpapifkbfblaaDoor
