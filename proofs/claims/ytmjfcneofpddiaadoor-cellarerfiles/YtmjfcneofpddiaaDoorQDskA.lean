/- Contracts: a disk's dies, Arm, Name, New. -/
import Derived.Test.YtmjfcneofpddiaaDoorQDskW
namespace Go.Proofs.YtmjfcneofpddiaaDoor
open Go.RowKit Go.Maps
set_option linter.unusedVariables false
set_option linter.unusedSimpArgs false

theorem setc {w : World} {b i : Nat} {cs : Array Value} {T : TypeId} {u : Value} (h : w.heap[b]? = some (.cells cs T (0, 0))) : (w.setCell ⟨b, i, none⟩ u).heap[b]? = some (.cells (cs.setIfInBounds i u) T (0, 0)) := by
  simp [World.setCell, Array.getElem?_modify, h]
theorem setc_o {w : World} {b i k : Nat} {u : Value} (h : k ≠ b) : (w.setCell ⟨b, i, none⟩ u).heap[k]? = w.heap[k]? := Below.heap_setCell _ ⟨b, i, none⟩ _ _ h
theorem DKc.cells {w : World} {d : Nat} {S : DS} {K : Nat → Prop} {bn bs : Nat} {sv : Value} {gs : List Nat} {fv : Nat → Value} (h : DKc w d S K bn bs sv gs fv) :
    w.cell? ⟨d, 0, none⟩ = some (.int .i64 S.room) ∧ w.cell? ⟨d, 1, none⟩ = some (.map (some bn)) ∧ w.cell? ⟨d, 2, none⟩ = some (.map (some bs)) ∧ w.cell? ⟨d, 3, none⟩ = some sv ∧ w.cell? ⟨d, 4, none⟩ = some (.int .i64 S.left) ∧ w.cell? ⟨d, 5, none⟩ = some (.bool S.dead) := by
  have hc := h.cell
  refine ⟨?_, ?_, ?_, ?_, ?_, ?_⟩ <;> simp [World.cell?, hc]
theorem DKc.ne_d {w : World} {d : Nat} {S : DS} {K : Nat → Prop} {bn bs : Nat} {sv : Value} {gs : List Nat} {fv : Nat → Value} (h : DKc w d S K bn bs sv gs fv) :
    bn ≠ d ∧ bs ≠ d ∧ (∀ r, sv.ownBlock = some r → r ≠ d) ∧ (∀ g ∈ gs, g ≠ d ∧ ∀ r, (fv g).ownBlock = some r → r ≠ d) := by
  have hc := h.cell
  refine ⟨fun e => ?_, fun e => ?_, fun r hr e => ?_, fun g hg => ⟨fun e => ?_, fun r hr e => ?_⟩⟩
  · obtain ⟨es, c, h1⟩ := h.now.isMap; rw [e, hc] at h1; cases h1
  · obtain ⟨es, c, h1⟩ := h.sure.isMap; rw [e, hc] at h1; cases h1
  · obtain ⟨_, cur, h1⟩ := own_lt h.steps hr; rw [e, hc] at h1; cases h1
  · have h1 := (h.file g hg).cell; rw [e, hc] at h1; simp at h1
  · obtain ⟨_, cur, h1⟩ := own_lt (h.file g hg).row hr; rw [e, hc] at h1; cases h1
/-- The disk's own cells are written anew, nothing else. -/
theorem DKc.turn {w w' : World} {d : Nat} {S S' : DS} {K : Nat → Prop} {bn bs : Nat} {sv : Value} {gs : List Nat} {fv : Nat → Value} (h : DKc w d S K bn bs sv gs fv) (hs : w'.heap.size = w.heap.size)
    (ho : ∀ k, k ≠ d → w'.heap[k]? = w.heap[k]?) (hc : w'.heap[d]? = some (.cells #[.int .i64 S'.room, .map (some bn), .map (some bs), sv, .int .i64 S'.left, .bool S'.dead] 65 (0, 0)))
    (e1 : S'.now = S.now) (e2 : S'.sure = S.sure) (e3 : S'.steps = S.steps) (e4 : S'.fl = S.fl) (e5 : S'.room = S.room) (hl0 : -9223372036854775808 ≤ S'.left) (hl1 : S'.left ≤ 9223372036854775807) : DKc w' d S' K bn bs sv gs fv := by
  obtain ⟨n1, n2, n3, n4⟩ := h.ne_d
  exact ⟨fun k hk => by rw [hs]; exact h.Kb k hk, h.kd, h.kn, h.ks, h.ne, h.kst, hc, by rw [e1]; exact h.now.kept (ho _ n1), by rw [e2]; exact h.sure.kept (ho _ n2), by rw [e3]; exact own_kept h.steps (fun r hr => ho r (n3 r hr)),
    fun g hg => by rw [e4]; exact (h.file g hg).kept (ho g (n4 g hg).1) (fun r hr => ho r ((n4 g hg).2 r hr)), h.apart, by rw [e1]; exact h.inN, by rw [e2]; exact h.inS, by rw [e3]; exact h.inT, by rw [e5]; exact h.room0, by rw [e5]; exact h.room1, hl0, hl1⟩
set_option maxHeartbeats 1000000 in
theorem dies_c {d : Nat} {S : DS} {K : Nat → Prop} {bn bs : Nat} {sv : Value} {gs : List Nat} {fv : Nat → Value} (w : World) (h : DKc w d S K bn bs sv gs fv) :
    Calls Tryd.prog 30 #[.pointer (some ⟨d, 0, none⟩)] w fun e w' => e = .returned (.bool (dieS S).dead) ∧ DKc w' d (dieS S) K bn bs sv gs fv ∧ Keeps K w w' ∧ w'.heap.size = w.heap.size := by
  obtain ⟨c0, c1, c2, c3, c4, c5⟩ := h.cells
  have hl0 := h.left0
  have hl1 := h.left1
  have HH : Hid (DKc w d S K bn bs sv gs fv) := h
  have hcell := h.cell
  clear h c0 c1 c2 c3
  have HC : Hid (w.heap[d]? = some (.cells #[.int .i64 S.room, .map (some bn), .map (some bs), sv, .int .i64 S.left, .bool S.dead] 65 (0, 0))) := hcell
  have hlt : d < w.heap.size := (Array.getElem?_eq_some_iff.1 hcell).1
  have h50 : w.frozen? ⟨d, 5, none⟩ = false := by simp [World.frozen?, hcell]
  have h40 : w.frozen? ⟨d, 4, none⟩ = false := by simp [World.frozen?, hcell]
  clear hcell
  by_cases hl : S.left = 0
  · have HD : Hid (dieS S = { S with dead := true }) := by unfold Hid dieS; rw [if_pos hl]
    rw [hl] at c4
    clear hl0 hl1
    go_enter Tryd.func30, Tryd.ntmps30
    go_wp2
    go_ret
    rw [HD.out]
    refine ⟨rfl, ?_, (Keeps.refl _ _).setCell HH.out.kd _, by simp [World.setCell]⟩
    refine HH.out.turn (by simp [World.setCell]) (fun k hk => setc_o hk) ?_ rfl rfl rfl rfl rfl (by show -9223372036854775808 ≤ S.left; omega) (by show S.left ≤ _; omega)
    rw [setc HC.out]
    rfl
  · by_cases hp : 0 < S.left
    · have HD : Hid (dieS S = { S with left := S.left - 1 }) := by unfold Hid dieS; rw [if_neg hl, if_pos hp]
      have hb : (S.left == 0) = false := beq_eq_false_iff_ne.2 hl
      go_enter Tryd.func30, Tryd.ntmps30
      go_wp2
      go_ret
      rw [HD.out]
      refine ⟨rfl, ?_, (Keeps.refl _ _).setCell HH.out.kd _, by simp [World.setCell]⟩
      refine HH.out.turn (by simp [World.setCell]) (fun k hk => setc_o hk) ?_ rfl rfl rfl rfl rfl (by show -9223372036854775808 ≤ S.left - 1; omega) (by show S.left - 1 ≤ _; omega)
      rw [setc HC.out]
      rfl
    · have HD : Hid (dieS S = S) := by unfold Hid dieS; rw [if_neg hl, if_neg hp]
      have hb : (S.left == 0) = false := beq_eq_false_iff_ne.2 hl
      go_enter Tryd.func30, Tryd.ntmps30
      go_wp2
      go_ret
      rw [HD.out]
      exact ⟨rfl, HH.out, Keeps.refl _ _, rfl⟩
theorem DK.dies {d : Nat} {S : DS} {K : Nat → Prop} {gs : List Nat} (w : World) (h : DK w d S K gs) :
    Calls Tryd.prog 30 #[.pointer (some ⟨d, 0, none⟩)] w fun e w' => e = .returned (.bool (dieS S).dead) ∧ DK w' d (dieS S) K gs ∧ Keeps K w w' := by
  obtain ⟨bn, bs, sv, fv, h⟩ := h
  refine (dies_c w h).mono ?_
  rintro e w' ⟨h1, h2, h3, _⟩
  exact ⟨h1, ⟨bn, bs, sv, fv, h2⟩, h3⟩
def gdC (c : UInt8) : Bool := decide (32 < c.toNat ∧ c.toNat < 127 ∧ c.toNat ≠ 47)
theorem nameD_eq (x : List UInt8) : nameD x = (decide (1 ≤ x.length ∧ x.length ≤ 80) && x.all gdC) := rfl
theorem take_snocB (s : ByteArray) (k : Nat) (h : k < s.size) : s.data.toList.take (k + 1) = s.data.toList.take k ++ [s[k]] := by
  rw [List.take_succ_eq_append_getElem (by simpa using h)]; rfl
set_option maxHeartbeats 1000000 in
theorem dname_any (s : ByteArray) (w : World) (hs : s.size ≤ 9223372036854775807) :
    Calls Tryd.prog 31 #[.string s] w fun e w' => e = .returned (.bool (nameD s.data.toList)) ∧ w' = w := by
  by_cases h0 : s.size = 0
  · have HN : Hid (nameD s.data.toList = false) := by unfold Hid; rw [nameD_eq]; have : s.data.toList.length = 0 := by simpa using h0
                                                      rw [this]; rfl
    obtain rfl : s = ⟨#[]⟩ := by
      have : s.data = #[] := Array.eq_empty_of_size_eq_zero h0
      cases s; simp_all
    clear h0
    go_enter Tryd.func31, Tryd.ntmps31
    go_wp2
    go_ret
    rw [HN.out]
    exact ⟨rfl, rfl⟩
  have he : s.toList.isEmpty = false := by
    rw [ByteArray.toList_eq, List.isEmpty_eq_false_iff]; intro e; exact h0 (by simpa using congrArg List.length e)
  by_cases h1 : 80 < s.size
  · have HN : Hid (nameD s.data.toList = false) := by unfold Hid; rw [nameD_eq]; have : s.data.toList.length = s.size := by simp
                                                      rw [this, decide_eq_false (by omega)]; rfl
    have hi : (80 : Int) < (s.size : Int) := by omega
    go_enter Tryd.func31, Tryd.ntmps31
    go_wp2
    go_ret
    rw [HN.out]
    exact ⟨rfl, rfl⟩
  have hi : ¬ (80 : Int) < (s.size : Int) := by omega
  have HN : Hid (nameD s.data.toList = s.data.toList.all gdC) := by unfold Hid; rw [nameD_eq]; have : s.data.toList.length = s.size := by simp
                                                                    rw [this, decide_eq_true (by omega)]; rfl
  go_enter Tryd.func31, Tryd.ntmps31
  go_wp2
  go_loop [14] (fun i => ∃ k : Nat, k ≤ s.size ∧ i = .int .i64 (k : Int) ∧ (s.data.toList.take k).all gdC = true) (fun i => s.size - (intOf i).toNat)
  case atStart => exact ⟨0, Nat.zero_le _, rfl, rfl⟩
  case round =>
    obtain ⟨k, hk, rfl, hall⟩ := hrel
    have HA : Hid ((s.data.toList.take k).all gdC = true) := hall
    clear hall
    by_cases hlt : k < s.size
    · have HT : Hid ((s.data.toList.take (k + 1)).all gdC = gdC s[k]) := by unfold Hid; rw [take_snocB s k hlt, List.all_append, HA.out]; simp
      have HG : Hid (gdC s[k] = decide (32 < s[k].toNat ∧ s[k].toNat < 127 ∧ s[k].toNat ≠ 47)) := rfl
      have HF : Hid (gdC s[k] = false → nameD s.data.toList = false) := fun hf => by
        rw [HN.out]
        rw [List.all_eq_false]
        exact ⟨s[k], by rw [← List.take_append_drop (k + 1) s.data.toList, take_snocB s k hlt]; simp, by rw [hf]; simp⟩
      have hb := s[k].toNat_lt
      generalize hc : s[k].toNat = c at *
      have h0' : 0 ≤ c := Nat.zero_le _
      by_cases c1 : c ≤ 32
      · have hg : gdC s[k] = false := by rw [HG.out]; simp; omega
        have HF2 := HF.out hg
        have HF3 : Hid (nameD s.data.toList = false) := HF2
        clear HF2 hg
        have c1i : (c : Int) ≤ 32 := by omega
        go_wp2
        go_ret
        rw [HF3.out]
        exact ⟨rfl, rfl⟩
      · have c1i : ¬ (c : Int) ≤ 32 := by omega
        by_cases c2 : 127 ≤ c
        · have hg : gdC s[k] = false := by rw [HG.out]; simp; omega
          have HF3 : Hid (nameD s.data.toList = false) := HF.out hg
          clear hg
          have c2i : (127 : Int) ≤ (c : Int) := by omega
          go_wp2
          go_ret
          rw [HF3.out]
          exact ⟨rfl, rfl⟩
        · have c2i : ¬ (127 : Int) ≤ (c : Int) := by omega
          by_cases c3 : c = 47
          · have hg : gdC s[k] = false := by rw [HG.out, c3]; simp
            have HF3 : Hid (nameD s.data.toList = false) := HF.out hg
            clear hg
            have c3b : ((c : Int) == 47) = true := by rw [beq_iff_eq]; omega
            clear c3
            go_wp2
            go_ret
            rw [HF3.out]
            exact ⟨rfl, rfl⟩
          · have c3b : ((c : Int) == 47) = false := by rw [beq_eq_false_iff_ne]; omega
            have HG2 : Hid (gdC s[k] = true) := by unfold Hid; rw [HG.out]; simp; omega
            clear c3
            go_wp2
            go_round
            case rel => exact ⟨k + 1, by omega, by go_num, by rw [HT.out]; exact HG2.out⟩
            case measure => simp [intOf]; omega
    · go_wp2
      go_ret
      rw [HN.out]
      have : s.data.toList.take k = s.data.toList := List.take_of_length_le (by simp; omega)
      rw [← this, HA.out]
      exact ⟨rfl, rfl⟩
end Go.Proofs.YtmjfcneofpddiaaDoor
