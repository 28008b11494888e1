/- Contract of node.Decode. -/
import Derived.Test.YtkgjepgaekbniaaDoorQNodD
namespace Go.Proofs.YtkgjepgaekbniaaDoor
open Go.RowKit
set_option linter.unusedVariables false
set_option linter.unusedSimpArgs false

theorem ch32_each : ∀ (n : Nat) (l : List UInt8), ∀ x ∈ ch32 n l, x.length ≤ 32
  | 0, l, x, hx => by simp [ch32] at hx
  | n + 1, l, x, hx => by
    rw [ch32] at hx
    split at hx
    · cases hx
    · rcases List.mem_cons.1 hx with rfl | hx
      · rw [List.length_take]; omega
      · exact ch32_each n _ x hx
theorem ch32_count : ∀ (n : Nat) (l : List UInt8), (ch32 n l).length ≤ n
  | 0, l => by simp [ch32]
  | n + 1, l => by
    rw [ch32]
    split
    · simp
    · have := ch32_count n (l.drop 32); simp; omega
theorem rNode_NB (s : St) (hl : s.rest.length ≤ 1000000000) : NB (rNode s).1 := by
  have h1 := rNum_le s
  have h2 := rText_le (rNum s).2
  have h3 := rNum_le (rText (rNum s).2).2
  have h4 := rNum_le (rNum (rText (rNum s).2).2).2
  have h5 := rNum_le (rNum (rNum (rText (rNum s).2).2).2).2
  have h6 := rText_le (rNum (rNum (rText (rNum s).2).2).2).2
  have h7 := rNum_le (rNum (rNum (rNum (rText (rNum s).2).2).2).2).2
  have h8 := rTake_le ((rNum (rNum (rNum (rNum (rText (rNum s).2).2).2).2).2).1 * 32) (rNum (rNum (rNum (rNum (rText (rNum s).2).2).2).2).2).2
  unfold rNode
  split
  · show (rText (rNum s).2).1.length ≤ _; omega
  · split
    · refine ⟨by show (rText (rNum s).2).1.length ≤ _; omega, by omega, by omega, ?_, ?_⟩
      · unfold rSums
        have := ch32_count (rTake ((rNum (rNum (rNum (rNum (rText (rNum s).2).2).2).2).2).1 * 32) (rNum (rNum (rNum (rNum (rText (rNum s).2).2).2).2).2).2).1.length (rTake ((rNum (rNum (rNum (rNum (rText (rNum s).2).2).2).2).2).1 * 32) (rNum (rNum (rNum (rNum (rText (rNum s).2).2).2).2).2).2).1
        simp only
        omega
      · intro x hx
        unfold rSums at hx
        have := ch32_each _ _ x hx
        omega
    · split
      · exact ⟨by show (rText (rNum s).2).1.length ≤ _; omega, by show (rText (rNum (rNum (rText (rNum s).2).2).2).2).1.length ≤ _; omega⟩
      · trivial
theorem rLoop_NB : ∀ (n count : Nat) (s : St) (acc : List Nd), s.rest.length ≤ 1000000000 → (∀ x ∈ acc, NB x) → (∀ x ∈ (rLoop n count s acc).1, NB x) ∧ (rLoop n count s acc).1.length ≤ acc.length + n
  | 0, count, s, acc, _, h => ⟨h, by simp [rLoop]⟩
  | n + 1, count, s, acc, hs, h => by
    rw [rLoop]
    split
    · have hn := rNode_le s
      have ih := rLoop_NB n count (rNode s).2 (acc ++ [(rNode s).1]) (by omega) (fun x hx => by
        rcases List.mem_append.1 hx with hx | hx
        · exact h x hx
        · simp at hx; subst hx; exact rNode_NB s hs)
      refine ⟨ih.1, ?_⟩
      have := ih.2
      simp at this
      omega
    · exact ⟨h, by simp⟩
theorem GW.below {w w' : World} {o : Obj} (h : GW (w.alloc o) w' (w.heap.size + 1) w.heap.size) : Below w.heap.size w w' :=
  ⟨h.os, h.tape, h.output, by have := h.size; simp at this; omega, fun k hk => (h.block k (by omega) (by omega)).trans (Lib.alloc_old w o k hk)⟩
theorem ON.below {w w' : World} {B : Nat} {v : Value} {l : List Nd} (h : ON w B v l) (hb : Below w.heap.size w w') : ON w' B v l := by
  obtain ⟨vs, h1, h2, h3⟩ := h
  refine ⟨vs, h1, ?_, fun i hi => ?_⟩
  · have hlt := World.ownsRow.lt h2
    refine ⟨h2.1, ?_⟩
    rcases h2.2 with h | ⟨k, cap, cur, rfl, g2, g3, g4⟩
    · exact .inl h
    · exact .inr ⟨k, cap, cur, rfl, g2, (hb.block _ (hlt k rfl).2).trans g3, g4⟩
  · have := h3 i hi
    revert this
    cases l.getD i .non with
    | fol => exact fun h => h
    | pla => rintro ⟨u, g1, g2⟩; exact ⟨u, g1, g2.below hb⟩
    | sym => exact fun h => h
    | ptr => rintro ⟨b, g0, g1, g2⟩; exact ⟨b, g0, g1, (hb.block b (lt_of_heap g2)).trans g2⟩
    | non => exact fun h => h
set_option maxRecDepth 100000 in
set_option maxHeartbeats 2000000 in
theorem decode_any (l : List UInt8) (w : World) (hl : l.length ≤ 1000000000) (hL : Lay11 w) :
    Calls Tryd.prog 17 #[.string (mkB l)] w fun e w' => ∃ v, e = .returned (.tuple #[v, .int .i64 (decN l).2]) ∧ ON w' (w.heap.size + 1) v (decN l).1 ∧ Below w.heap.size w w' := by
  have hNBs := rLoop_NB 201 (rNum ⟨l, 0⟩).1 (rCount ⟨l, 0⟩) [] (by have := rCount_le ⟨l, 0⟩; exact Nat.le_trans this hl) (by simp)
  have HNB : Hid ((∀ x ∈ (rNodes ⟨l, 0⟩).1, NB x) ∧ (rNodes ⟨l, 0⟩).1.length ≤ 201) := ⟨hNBs.1, by show (rLoop 201 (rNum ⟨l, 0⟩).1 (rCount ⟨l, 0⟩) []).1.length ≤ 201; simpa using hNBs.2⟩
  have HE : Hid (decN l = _) := rfl
  unfold Hid at HE
  conv at HE => rhs; unfold decN
  have HE2 : Hid (decN l = _) := HE
  clear HE hNBs
  have hR0 : RD (w.alloc (.cells #[.string (mkB l), .int .i64 0] 66)) w.heap.size ⟨l, 0⟩ := heap_alloc_new w _
  have HN : Hid (Calls _ _ _ _ _) := rnodes_any w.heap.size (w.heap.size + 1) ⟨l, 0⟩ _ hR0 hl (by omega) (by simp)
  unfold Hid at HN
  clear hR0
  go_enter Tryd.func17, Tryd.ntmps17
  go_wp2_with fail
  refine (HN : Calls _ _ _ _ _).mono ?_
  rintro e w2 ⟨v, rfl, hO, hR, hG⟩
  have hb := hG.below
  have d1 := hR.c1
  obtain ⟨va, vc, hv⟩ : ∃ a c, v = .slice a (rNodes ⟨l, 0⟩).1.length c := by obtain ⟨a, c, hv, _⟩ := hO.ln; exact ⟨a, c, hv⟩
  have HO : Hid (ON w2 (w.heap.size + 1) v (rNodes ⟨l, 0⟩).1) := hO
  have HB : Hid (Below w.heap.size w w2) := hb
  clear hO hR hG hb HN
  generalize (rNodes ⟨l, 0⟩).1 = ns at *
  generalize (rNodes ⟨l, 0⟩).2.f = F at *
  subst hv
  by_cases hF : F = 0
  case neg =>
    have HE : Hid (decN l = ([], F)) := by unfold Hid; rw [HE2.out, if_pos hF]
    have hne : (F == 0) = false := beq_eq_false_iff_ne.2 hF
    have hne2 : (F != 0) = true := by rw [bne, hne]; rfl
    clear HE2
    go_wp2
    go_region
    go_wp2
    go_ret2
    rw [HE.out]
    exact ⟨_, rfl, ON.nil _ _, HB.out.drew⟩
  subst hF
  have HCK : Hid (Calls _ _ _ _ _) := check_any ns _ w2 HO.out.ln HNB.out.1 (hL.below HB.out) (by have := HNB.out.2; omega)
  unfold Hid at HCK
  by_cases hc : checkN ns = 0
  · have HE : Hid (decN l = (ns, 0)) := by unfold Hid; rw [HE2.out, if_neg (by simp), if_neg (by rw [hc]; simp)]
    rw [hc] at HCK
    clear HE2
    go_wp2_with fail
    refine (HCK : Calls _ _ _ _ _).mono ?_
    rintro e w3 ⟨rfl, hb3⟩
    go_wp2
    go_ret2
    rw [HE.out]
    exact ⟨_, rfl, HO.out.below hb3, HB.out.trans (hb3.mono HB.out.size)⟩
  · have HE : Hid (decN l = ([], checkN ns)) := by unfold Hid; rw [HE2.out, if_neg (by simp), if_pos hc]
    have hne : (checkN ns == 0) = false := beq_eq_false_iff_ne.2 hc
    have hne2 : (checkN ns != 0) = true := by rw [bne, hne]; rfl
    clear HE2
    generalize checkN ns = C at *
    go_wp2_with fail
    refine (HCK : Calls _ _ _ _ _).mono ?_
    rintro e w3 ⟨rfl, hb3⟩
    go_wp2
    go_ret2
    rw [HE.out]
    exact ⟨_, rfl, ON.nil _ _, HB.out.trans (hb3.mono HB.out.size)⟩
end Go.Proofs.YtkgjepgaekbniaaDoor
