/- Files of one byte's name each, on a disk of some room (pure). -/
import Derived.Test.YtgpfbahmkbdjmabDskN
namespace Go.Proofs.Ytgpfbahmkbdjmab
set_option linter.unusedVariables false
set_option linter.unusedSimpArgs false

/-- The name of file i. -/
def nmI (i : Nat) : List UInt8 := [UInt8.ofNat (97 + i)]
theorem nmI_ok {i : Nat} (h : i < 30) : nameD (nmI i) = true := by
  have : ∀ i : Fin 30, nameD (nmI i.1) = true := by decide
  exact this ⟨i, h⟩
theorem nmI_inj {i j : Nat} (hi : i < 30) (hj : j < 30) (h : nmI i = nmI j) : i = j := by
  have : ∀ i j : Fin 30, nmI i.1 = nmI j.1 → i = j := by decide
  exact congrArg Fin.val (this ⟨i, hi⟩ ⟨j, hj⟩ h)
/-- A disk on which the first i files may be. -/
structure RI (room : Int) (S : DS) (i used : Nat) : Prop where
  left : S.left = -1
  dead : S.dead = false
  room : S.room = room
  nm : ∀ p ∈ S.now, ∃ j, j < i ∧ p.1 = nmI j
  us : usd S.fl S.now = used
  len : S.now.length ≤ i
  st : S.steps.length ≤ 2 * i
theorem RI.new (room : Int) : RI room (newS room) 0 0 := ⟨rfl, rfl, rfl, fun p hp => (by cases hp), rfl, Nat.le_refl _, Nat.le_refl _⟩
theorem RI.die {room : Int} {S : DS} {i used : Nat} (h : RI room S i used) : dieS S = S := dieS_live (by rw [h.left]; decide)
theorem RI.up {room : Int} {S : DS} {i used : Nat} (h : RI room S i used) : RI room S (i + 1) used :=
  ⟨h.left, h.dead, h.room, fun p hp => by obtain ⟨j, hj, e⟩ := h.nm p hp; exact ⟨j, by omega, e⟩, h.us, by have := h.len; omega, by have := h.st; omega⟩
theorem RI.lkn {room : Int} {S : DS} {i used : Nat} (h : RI room S i used) (hi : i < 30) : lk S.now (nmI i) = none := by
  rw [lk_none_iff]
  intro hm
  obtain ⟨p, hp, e⟩ := List.mem_map.1 hm
  obtain ⟨j, hj, e2⟩ := h.nm p hp
  have := nmI_inj (by omega) hi (e2.symm.trans e)
  omega
theorem RI.apEq {room : Int} {S : DS} {i used : Nat} (h : RI room S i used) (hi : i < 30) (d : List UInt8) : apE S (nmI i) d = if room < (used : Int) + d.length then 9 else 0 := by
  unfold apE
  rw [h.die, h.dead, nmI_ok hi, h.room, h.us]
  simp
theorem dl_none {F : Fo} {x : List UInt8} (h : lk F x = none) : dl F x = F := by
  rw [lk_none_iff] at h
  unfold dl
  rw [List.filter_eq_self]
  intro p hp
  simp only [bne_iff_ne]
  intro e
  exact h (List.mem_map.2 ⟨p, hp, e⟩)
theorem usd_upd {fl : Nat → List UInt8 × Nat} {F : Fo} {g : Nat} {v : List UInt8 × Nat} (h : ∀ p ∈ F, p.2 ≠ g) : usd (updF fl g v) F = usd fl F := by
  unfold usd
  congr 1
  refine List.map_congr_left fun p hp => ?_
  rw [updF_other _ _ (h p hp)]
theorem RI.full {room : Int} {S : DS} {i used : Nat} (h : RI room S i used) (hi : i < 30) {d : List UInt8} (hr : room < (used : Int) + d.length) (g : Nat) : apS S (nmI i) d g = S := by
  unfold apS; rw [h.apEq hi, if_pos hr, if_neg (by decide), h.die]
theorem RI.app {room : Int} {S : DS} {i used : Nat} (h : RI room S i used) (hi : i < 30) {d : List UInt8} (hr : ¬ room < (used : Int) + d.length) (g : Nat) (hg : ∀ p ∈ S.now, p.2 ≠ g) :
    RI room (apS S (nmI i) d g) (i + 1) (used + d.length) ∧ (apS S (nmI i) d g).now = (nmI i, g) :: S.now ∧ (apS S (nmI i) d g).steps.length ≤ 2 * i + 1 ∧ usd (apS S (nmI i) d g).fl S.now = used := by
  have hk := h.lkn hi
  have e : apS S (nmI i) d g = { takeS S ⟨0, g, nmI i, []⟩ with fl := updF S.fl g (d, 0) } := by
    unfold apS; rw [h.apEq hi, if_neg hr, if_pos rfl, hk, h.die]
  have en : (apS S (nmI i) d g).now = (nmI i, g) :: S.now := by
    rw [e]
    show doF S.now ⟨0, g, nmI i, []⟩ = _
    unfold doF
    rw [if_pos ⟨rfl, hk⟩]
    unfold pt
    rw [dl_none hk]
  have ef : (apS S (nmI i) d g).fl = updF S.fl g (d, 0) := by rw [e]
  have es : (apS S (nmI i) d g).steps.length ≤ 2 * i + 1 := by
    rw [e]; show (S.steps ++ [_]).length ≤ _; rw [List.length_append]; have := h.st; simp; omega
  refine ⟨⟨?_, ?_, ?_, fun p hp => ?_, ?_, ?_, by omega⟩, en, es, ?_⟩
  · rw [e]; exact h.left
  · rw [e]; exact h.dead
  · rw [e]; exact h.room
  · rw [en] at hp
    rcases List.mem_cons.1 hp with rfl | hp
    · exact ⟨i, by omega, rfl⟩
    · obtain ⟨j, hj, e⟩ := h.nm p hp; exact ⟨j, by omega, e⟩
  · rw [en, ef]
    have : usd (updF S.fl g (d, 0)) ((nmI i, g) :: S.now) = d.length + usd (updF S.fl g (d, 0)) S.now := by unfold usd; rw [List.map_cons, List.sum_cons, updF_same]
    rw [this, usd_upd hg, h.us]; omega
  · rw [en, List.length_cons]; have := h.len; omega
  · rw [ef, usd_upd hg, h.us]
theorem RI.rm {room : Int} {S : DS} {i used u2 : Nat} (h : RI room S (i + 1) used) {g : Nat} {F : Fo} (hn : S.now = (nmI i, g) :: F) (hF : lk F (nmI i) = none) (hu : usd S.fl F = u2) (hs : S.steps.length ≤ 2 * i + 1) : syE S (nmI i) = 0 ∧ RI room (rmS S (nmI i)) (i + 1) u2 := by
  have hk : lk S.now (nmI i) = some g := by rw [hn, lk_cons, if_pos rfl]
  have hd : ¬ (dieS S).dead = true := by rw [h.die, h.dead]; simp
  have e : syE S (nmI i) = 0 := by unfold syE; rw [if_neg hd, if_neg (by rw [hk]; simp)]
  refine ⟨e, ?_⟩
  have er : rmS S (nmI i) = takeS S ⟨2, g, nmI i, []⟩ := by unfold rmS; rw [e, if_pos rfl, hk, h.die]
  have en : (rmS S (nmI i)).now = F := by
    rw [er]
    show doF S.now ⟨2, g, nmI i, []⟩ = F
    unfold doF
    rw [if_neg (by simp), if_neg (by simp), if_pos ⟨rfl, hk⟩, hn]
    have : dl ((nmI i, g) :: F) (nmI i) = dl F (nmI i) := by simp [dl]
    rw [this, dl_none hF]
  refine ⟨?_, ?_, ?_, fun p hp => ?_, ?_, ?_, ?_⟩
  · rw [er]; exact h.left
  · rw [er]; exact h.dead
  · rw [er]; exact h.room
  · rw [en] at hp; exact h.nm p (by rw [hn]; exact List.mem_cons_of_mem _ hp)
  · rw [en, er]; exact hu
  · rw [en]; have := h.len; rw [hn, List.length_cons] at this; omega
  · rw [er]; show (S.steps ++ [_]).length ≤ _; rw [List.length_append]; simp; omega
end Go.Proofs.Ytgpfbahmkbdjmab
