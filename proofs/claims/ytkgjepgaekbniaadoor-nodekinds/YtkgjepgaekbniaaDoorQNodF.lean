/- Contract of node.Encode. -/
import Derived.Test.YtkgjepgaekbniaaDoorQNodE
namespace Go.Proofs.YtkgjepgaekbniaaDoor
open Go.RowKit
set_option linter.unusedVariables false
set_option linter.unusedSimpArgs false

/-- Nodes as bytes. -/
def encN (l : List Nd) : List UInt8 := vb l.length ++ (l.map tldN).flatten
theorem chk_unfit : ∀ (a : List UInt8) (fs : List (List UInt8)) (l : List Nd), chkN a fs l = 0 → ∀ n ∈ l, unfitN n = 0
  | _, _, [], _, n, hn => by cases hn
  | a, fs, m :: r, h, n, hn => by
    rw [chkN] at h
    by_cases hu : unfitN m = 0
    · rw [if_neg (by rw [hu]; simp)] at h
      split at h
      · omega
      · split at h
        · omega
        · rcases List.mem_cons.1 hn with rfl | hn
          · exact hu
          · exact chk_unfit _ _ r h n hn
    · rw [if_pos hu] at h
      exact absurd h hu
theorem check_unfit {l : List Nd} (h : checkN l = 0) : l.length ≤ 200 ∧ ∀ n ∈ l, unfitN n = 0 := by
  unfold checkN at h
  split at h
  · omega
  · exact ⟨by omega, chk_unfit _ _ l h⟩
theorem tld_len {n : Nd} (h : unfitN n = 0) : (tldN n).length ≤ 1100000 := by
  obtain ⟨hk0, his⟩ := unfit_zero h
  have hat := isL_len his
  have hf : formN n = true := by
    unfold unfitN at h
    rw [if_neg hk0, if_neg (by simp [his])] at h
    split at h
    · omega
    · rename_i h9; simpa using h9
  have hh : ∀ (k : Nat) (a : List UInt8) (m t : Nat), k ≤ 3 → a.length ≤ 200 → m ≤ 511 → t ≤ 253402300799 → (headB k a m t).length ≤ 300 := fun k a m t h1 h2 h3 h4 => by
    unfold headB
    have := vb_len k (by omega); have := vb_len a.length (by omega); have := vb_len m (by omega); have := vb_len t (by omega)
    simp only [List.length_append]; omega
  cases n with
  | fol a m t =>
    simp only [formN, datedN, Bool.and_eq_true, decide_eq_true_eq] at hf
    simp only [atN] at hat
    have := hh 1 a m.toNat t.toNat (by omega) hat (by omega) (by omega)
    simp only [tldN]; omega
  | pla a m t s c =>
    simp only [formN, datedN, filledN, Bool.and_eq_true, decide_eq_true_eq] at hf
    simp only [atN] at hat
    obtain ⟨⟨⟨⟨f1, f2⟩, f3⟩, f4⟩, ⟨⟨⟨g1, g2⟩, g3⟩, g4⟩, g5⟩ := hf
    have := hh 2 a m.toNat t.toNat (by omega) hat (by omega) (by omega)
    have hfl : c.flatten.length = c.length * 32 := by
      rw [List.length_flatten]
      have : c.map List.length = List.replicate c.length 32 := by
        apply List.ext_getElem (by simp)
        intro i h1 h2
        simp only [List.all_eq_true, decide_eq_true_eq] at g5
        simp [g5 _ (List.getElem_mem (by simpa using h1))]
      rw [this]
      simp
    have := vb_len s.toNat (by omega)
    have := vb_len c.length (by omega)
    simp only [tldN, List.length_append]; omega
  | sym a m t g =>
    simp only [formN, datedN, targN, Bool.and_eq_true, decide_eq_true_eq] at hf
    simp only [atN] at hat
    have := hh 3 a m.toNat t.toNat (by omega) hat (by omega) (by omega)
    have := vb_len g.length (by omega)
    simp only [tldN, List.length_append]; omega
  | ptr => exact absurd rfl hk0
  | non => exact absurd rfl hk0
theorem flat_take (l : List Nd) (k : Nat) (hk : k < l.length) : ((l.take (k + 1)).map tldN).flatten = ((l.take k).map tldN).flatten ++ tldN (l.getD k .non) := by
  rw [List.take_succ_eq_append_getElem hk, List.map_append, List.flatten_append, List.getD_eq_getElem?_getD, List.getElem?_eq_getElem hk]
  simp
theorem flat_len (l : List Nd) (h : ∀ n ∈ l, unfitN n = 0) : ((l.map tldN).flatten).length ≤ l.length * 1100000 := by
  induction l with
  | nil => simp
  | cons n r ih =>
    have := ih (fun m hm => h m (by simp [hm]))
    have := tld_len (h n (by simp))
    simp only [List.map_cons, List.flatten_cons, List.length_append, List.length_cons]
    omega
theorem bwriteB (B b : Nat) (l s : List UInt8) (w : World) (h : BF B b l w) (hlen : l.length + s.length ≤ 140737488355328) (hBw : B ≤ w.heap.size) :
    Calls Tryd.prog 21 #[.pointer (some ⟨b, 0, none⟩), .string (mkB s)] w fun e w' => (∃ r, e = .returned r) ∧ BF B b (l ++ s) w' ∧ Below B w w' ∧ Lib.OthersKept 5 (some b) w w' :=
  bwriteF B b l (mkB s) w h (by rw [mkB_size]; exact hlen) hBw
theorem BF.below {B b : Nat} {l : List UInt8} {w w' : World} (h : BF B b l w) (hb : Below w.heap.size w w') : BF B b l w' := by
  have key : ∀ p, Lib.BuilderAtF 58 5 B b p (Lib.byteCells l) w → Lib.BuilderAtF 58 5 B b p (Lib.byteCells l) w' := fun p h => by
    have hlt := h.lt
    obtain ⟨hB, v, hbk, hown, hne⟩ := h
    refine ⟨hB, v, (hb.block _ hlt).trans hbk, ?_, hne⟩
    have hl := hown.lt
    refine ⟨hown.1, ?_⟩
    rcases hown.2 with h | ⟨g, cap, cur, fz, rfl, h2, h3, h4⟩
    · exact .inl h
    · exact .inr ⟨g, cap, cur, fz, rfl, h2, (hb.block _ (hl g rfl).2).trans h3, h4⟩
  rcases h with h | h
  · exact .inl (key _ h)
  · exact .inr (key _ h)
/-- What Encode answers. -/
def encR (l : List Nd) : List UInt8 := if checkN l = 0 then encN l else []
set_option maxRecDepth 100000 in
set_option maxHeartbeats 2000000 in
theorem encode_any (ns : List Nd) (v : Value) (w : World) (h : LN w v ns) (hB : ∀ n ∈ ns, NB n) (hL : Lay11 w) (hlen : ns.length ≤ 9223372036854775807) :
    Calls Tryd.prog 16 #[v] w fun e w' => e = .returned (.tuple #[.string (mkB (encR ns)), .int .i64 (checkN ns)]) ∧ Below w.heap.size w w' := by
  have HLN : Hid (LN w v ns) := h
  have HCK : Hid (Calls _ _ _ _ _) := check_any ns v w h hB hL hlen
  obtain ⟨a0, cap, rfl, _, _⟩ := h
  by_cases hc : checkN ns = 0
  case neg =>
    have HE : Hid (encR ns = []) := by unfold Hid encR; rw [if_neg hc]
    have hne : (checkN ns == 0) = false := beq_eq_false_iff_ne.2 hc
    have hne2 : (checkN ns != 0) = true := by rw [bne, hne]; rfl
    go_enter Tryd.func16, Tryd.ntmps16
    go_wp2_with fail
    refine (Hid.out HCK : Calls _ _ _ _ _).mono ?_
    rintro e w1 ⟨rfl, hb1⟩
    go_wp2
    go_ret2
    rw [HE.out]
    exact ⟨rfl, hb1⟩
  have HE : Hid (encR ns = encN ns) := by unfold Hid encR; rw [if_pos hc]
  obtain ⟨hl200, HUF⟩ := check_unfit hc
  have HU : Hid (∀ n ∈ ns, unfitN n = 0) := HUF
  have HFL : Hid (∀ k, (((ns.take k).map tldN).flatten).length ≤ 220000000) := fun k => by
    have := flat_len (ns.take k) (fun n hn => HUF n (List.mem_of_mem_take hn))
    rw [List.length_take] at this
    omega
  clear HUF
  unfold Hid at HCK
  rw [hc] at HCK ⊢
  have hvl := vb_len ns.length (by omega)
  go_enter Tryd.func16, Tryd.ntmps16
  go_wp2_with fail
  refine (HCK : Calls _ _ _ _ _).mono ?_
  rintro e w1 ⟨rfl, hb1⟩
  have hz1 := hb1.size
  go_wp2_with fail
  refine (num_any ns.length _ (by omega)).mono ?_
  rintro e w2 ⟨rfl, hb2⟩
  have h2 : BF w1.heap.size w1.heap.size [] w2 := (bnewF w1).below hb2
  have HB2 : Hid (Below w.heap.size w w2) := (hb1.alloc (by omega) _).trans (hb2.mono (by simp; omega))
  have hz2 : w1.heap.size + 1 ≤ w2.heap.size := by have := hb2.size; simpa using this
  have HH2 : Hid (BF w1.heap.size w1.heap.size [] w2) := h2
  clear hb1 hb2 h2 HCK
  generalize w1.heap.size = B at *
  go_wp2_with fail
  refine (bwriteB B B [] (vb ns.length) _ HH2.out (by simp; omega) (by omega)).mono ?_
  rintro e w3 ⟨⟨r3, rfl⟩, h3, hb3, _⟩
  have HB3 : Hid (Below w.heap.size w w3) := HB2.out.trans (hb3.mono (by omega))
  have hz3 := hb3.size
  have HH3 : Hid (BF B B (vb ns.length) w3) := by unfold Hid; simpa using h3
  clear h3 hb3 HH2 HB2
  go_wp2
  go_loopw [19] (fun i wr => ∃ (k : Nat), k ≤ ns.length ∧ i = .int .i64 (k : Int) ∧ BF B B (vb ns.length ++ ((ns.take k).map tldN).flatten) wr ∧ Below w.heap.size w wr ∧ B + 1 ≤ wr.heap.size) (fun i _ => ns.length - (intOf i).toNat)
  case atStart => exact ⟨0, Nat.zero_le _, rfl, by simpa using HH3.out, HB3.out, by omega⟩
  case round =>
    obtain ⟨k, hk, rfl, hbf, hb, hwz⟩ := hrel
    have HBF : Hid (BF B B (vb ns.length ++ ((ns.take k).map tldN).flatten) wr) := hbf
    have HB : Hid (Below w.heap.size w wr) := hb
    clear hbf hb
    by_cases hlt : k < ns.length
    · obtain ⟨a', c', hv', _, hnodes⟩ := HLN.out.below HB.out
      obtain ⟨x, u, hax, hcell, hNV⟩ := hnodes k hlt
      obtain ⟨rfl, rfl⟩ : a0 = a' ∧ cap = c' := by cases hv'; exact ⟨rfl, rfl⟩
      subst hax
      have hNB := hB _ (nd_mem hlt)
      have huf := HU.out _ (nd_mem hlt)
      have HTK : Hid (_ = _) := flat_take ns k hlt
      have hfl := HFL.out k
      have htl := tld_len huf
      clear hnodes hv'
      have HT : Hid (Calls _ _ _ _ _) := told_any _ u wr hNV hNB huf
      clear hNV hNB huf
      generalize ns.getD k .non = n at *
      go_wp2_with fail
      refine (Hid.out HT : Calls _ _ _ _ _).mono ?_
      rintro e w4 ⟨rfl, hb4⟩
      have HB4 : Hid (Below w.heap.size w w4) := HB.out.trans (hb4.mono HB.out.size)
      have hz4 := hb4.size
      have HBF4 : Hid (BF B B (vb ns.length ++ ((ns.take k).map tldN).flatten) w4) := HBF.out.below hb4
      clear hb4 HT HBF
      go_wp2_with fail
      refine (bwriteB B B _ (tldN n) _ HBF4.out (by rw [List.length_append]; omega) (by omega)).mono ?_
      rintro e w5 ⟨⟨r5, rfl⟩, h5, hb5, _⟩
      have HB5 : Hid (Below w.heap.size w w5) := HB4.out.trans (hb5.mono (by omega))
      have hz5 := hb5.size
      have HH5 : Hid (BF B B (vb ns.length ++ ((ns.take (k + 1)).map tldN).flatten) w5) := by unfold Hid; rw [HTK.out, ← List.append_assoc]; exact h5
      clear h5 hb5 HBF4
      go_wp2
      go_roundw
      case rel => exact ⟨k + 1, by omega, by go_num, HH5.out, HB5.out, by omega⟩
      case measure => simp [intOf]; omega
    · have HE2 : Hid (vb ns.length ++ ((ns.take k).map tldN).flatten = encR ns) := by unfold Hid; rw [HE.out, List.take_of_length_le (by omega)]; rfl
      unfold Hid at HBF
      rw [HE2.out] at HBF
      go_wp2_with fail
      refine (bstringF B B _ _ HBF (by omega)).mono ?_
      rintro e w4 ⟨rfl, hb4⟩
      go_wp2
      go_ret2
      exact ⟨rfl, HB.out.trans (hb4.mono (by omega))⟩
end Go.Proofs.YtkgjepgaekbniaaDoor
