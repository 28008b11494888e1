/- CellarerFiles: a tree's files on a disk, synced and settled; others beside them called g and h; a crash (pure). -/
import Derived.Test.YtmjfcneofpddiaaDoorQDskT
import Derived.Test.YtmjfcneofpddiaaDoorQWkG
namespace Go.Proofs.YtmjfcneofpddiaaDoor
set_option linter.unusedVariables false
set_option linter.unusedSimpArgs false

def gX : List UInt8 := [103]
def hX : List UInt8 := [104]
def fnm (i : Nat) : List UInt8 := [102, UInt8.ofNat (97 + i)]
theorem fnm_inj : ∀ i j, i < 20 → j < 20 → fnm i = fnm j → i = j := by
  intro i j hi hj h
  have h1 : UInt8.ofNat (97 + i) = UInt8.ofNat (97 + j) := by unfold fnm at h; simpa using h
  have h2 := congrArg UInt8.toNat h1
  rw [UInt8.toNat_ofNat', UInt8.toNat_ofNat'] at h2
  omega
theorem fnm_name : ∀ i : Fin 20, nameD (fnm i.val) = true := by decide +kernel
theorem fnm_ne (i : Nat) : fnm i ≠ gX ∧ fnm i ≠ hX := by unfold fnm gX hX; exact ⟨by simp, by simp⟩
def cntF (l : List It) : Nat := (l.map fun x => if x.k = 2 then 1 else 0).sum
theorem cntF_snoc (l : List It) (x : It) : cntF (l ++ [x]) = cntF l + (if x.k = 2 then 1 else 0) := by simp [cntF]
theorem cntF_le (l : List It) : cntF l ≤ l.length := by
  unfold cntF
  induction l with
  | nil => simp
  | cons a l ih => simp only [List.map_cons, List.sum_cons, List.length_cons]; split <;> omega
theorem sizeI_le (l : List It) (h : ∀ x ∈ l, x.k = 2 → x.d.length ≤ 32768) : sizeI l ≤ 32768 * l.length := by
  induction l with
  | nil => simp [sizeI]
  | cons a l ih =>
    rw [sizeI_cons, List.length_cons]
    have := ih (fun x hx => h x (List.mem_cons_of_mem _ hx))
    have := h a List.mem_cons_self
    split
    · rename_i e; have := this e; omega
    · omega
/-- Behind k items. -/
structure FI (l : List It) (k : Nat) (S : DS) : Prop where
  left : S.left = -1
  dead : S.dead = false
  room : S.room = 1048576
  len : S.now.length = cntF (l.take k)
  yes : ∀ i x, i < k → l[i]? = some x → x.k = 2 → ∃ g, (fnm i, g) ∈ S.now ∧ S.fl g = (x.d, x.d.length)
  nms : ∀ p ∈ S.now, ∃ i x, i < k ∧ l[i]? = some x ∧ x.k = 2 ∧ p.1 = fnm i
  gnd : (S.now.map (·.2)).Nodup
  knd : Kd S.now
  us : usd S.fl S.now = sizeI (l.take k)
  st : S.steps.length ≤ k
theorem FI.new (l : List It) : FI l 0 (newS 1048576) :=
  ⟨rfl, rfl, rfl, by simp [newS, cntF], fun i x h => absurd h (Nat.not_lt_zero _), fun p hp => (by cases hp), List.nodup_nil, Kd.nil, by simp [newS, usd, sizeI], Nat.le_refl _⟩
theorem FI.die {l : List It} {k : Nat} {S : DS} (h : FI l k S) : dieS S = S := dieS_live (by rw [h.left]; decide)
theorem take_snocI {l : List It} {k : Nat} {x : It} (hx : l[k]? = some x) : l.take (k + 1) = l.take k ++ [x] := by rw [List.take_add_one, hx]; rfl
theorem FI.no {l : List It} {k : Nat} {S : DS} (h : FI l k S) (hk : k < 20) : lk S.now (fnm k) = none := by
  rw [lk_none_iff]
  intro hm
  obtain ⟨p, hp, e⟩ := List.mem_map.1 hm
  obtain ⟨i, x, hi, _, _, e2⟩ := h.nms p hp
  have := fnm_inj i k (by omega) hk (by rw [← e2, e])
  omega
theorem FI.skip {l : List It} {k : Nat} {S : DS} (h : FI l k S) {x : It} (hx : l[k]? = some x) (hk : x.k ≠ 2) : FI l (k + 1) S := by
  have e := take_snocI hx
  refine ⟨h.left, h.dead, h.room, by rw [e, cntF_snoc, if_neg hk]; exact h.len, fun i y hi hy hy2 => ?_, fun p hp => ?_, h.gnd, h.knd, by rw [e, sizeI_snoc, if_neg hk]; exact h.us, by have := h.st; omega⟩
  · by_cases e2 : i = k
    · subst e2; rw [hx] at hy; injection hy with hy; subst hy; exact absurd hy2 hk
    · exact h.yes i y (by omega) hy hy2
  · obtain ⟨i, y, hi, r⟩ := h.nms p hp
    exact ⟨i, y, by omega, r⟩
/-- Append, Sync of one file. -/
theorem FI.file {l : List It} {k : Nat} {S : DS} (h : FI l k S) (hk : k < 20) {x : It} (hx : l[k]? = some x) (h2 : x.k = 2) (hs : sizeI (l.take k) + x.d.length ≤ 1048576) (g : Nat) (hg : ∀ p ∈ S.now, p.2 ≠ g) :
    apE S (fnm k) x.d = 0 ∧ syE (apS S (fnm k) x.d g) (fnm k) = 0 ∧ (apS S (fnm k) x.d g).steps.length ≤ k + 1 ∧ (apS S (fnm k) x.d g).now.length ≤ k + 1 ∧ FI l (k + 1) (syS (apS S (fnm k) x.d g) (fnm k)) := by
  have hlk := h.no hk
  have hnm : nameD (fnm k) = true := fnm_name ⟨k, hk⟩
  have e : apE S (fnm k) x.d = 0 := by
    unfold apE; rw [h.die, h.dead, hnm, h.room, h.us]; simp; omega
  have en : doF S.now ⟨0, g, fnm k, []⟩ = (fnm k, g) :: S.now := by
    unfold doF; rw [if_pos ⟨rfl, hlk⟩]; unfold pt; rw [dl_none' hlk]
  have e1 : apS S (fnm k) x.d g = ⟨S.room, (fnm k, g) :: S.now, S.sure, S.steps ++ [⟨0, g, fnm k, []⟩], S.left, S.dead, updF S.fl g (x.d, 0)⟩ := by
    unfold apS; rw [if_pos e, hlk, h.die]; unfold takeS; rw [en]
  rw [e1]
  have hl : S.left < 0 := by rw [h.left]; decide
  have hdi : dieS ⟨S.room, (fnm k, g) :: S.now, S.sure, S.steps ++ [⟨0, g, fnm k, []⟩], S.left, S.dead, updF S.fl g (x.d, 0)⟩ = ⟨S.room, (fnm k, g) :: S.now, S.sure, S.steps ++ [⟨0, g, fnm k, []⟩], S.left, S.dead, updF S.fl g (x.d, 0)⟩ := dieS_live hl
  have hlk2 : lk ((fnm k, g) :: S.now) (fnm k) = some g := by rw [lk_cons, if_pos rfl]
  have hsy : syE ⟨S.room, (fnm k, g) :: S.now, S.sure, S.steps ++ [⟨0, g, fnm k, []⟩], S.left, S.dead, updF S.fl g (x.d, 0)⟩ (fnm k) = 0 := by
    unfold syE; rw [hdi]; simp only [h.dead, hlk2]; simp
  have e2 : syS ⟨S.room, (fnm k, g) :: S.now, S.sure, S.steps ++ [⟨0, g, fnm k, []⟩], S.left, S.dead, updF S.fl g (x.d, 0)⟩ (fnm k) = ⟨S.room, (fnm k, g) :: S.now, S.sure, S.steps ++ [⟨0, g, fnm k, []⟩], S.left, S.dead, updF S.fl g (x.d, x.d.length)⟩ := by
    unfold syS; rw [hdi]; simp only [h.dead, hlk2, updF_same]
    simp
    funext j; unfold updF; split <;> rfl
  rw [e2]
  have hlen : S.now.length ≤ k := by rw [h.len]; have := cntF_le (l.take k); rw [List.length_take] at this; omega
  have et := take_snocI hx
  refine ⟨e, hsy, by show (S.steps ++ [_]).length ≤ k + 1; have := h.st; simp; omega, by show ((fnm k, g) :: S.now).length ≤ k + 1; simp; omega, h.left, h.dead, h.room, ?_, fun i y hi hy hy2 => ?_, fun p hp => ?_, ?_, ?_, ?_, by show (S.steps ++ [_]).length ≤ k + 1; have := h.st; simp; omega⟩
  · show ((fnm k, g) :: S.now).length = _; rw [et, cntF_snoc, if_pos h2, List.length_cons, h.len]
  · by_cases e3 : i = k
    · subst e3; rw [hx] at hy; injection hy with hy; subst hy
      exact ⟨g, List.mem_cons_self, updF_same _ _ _⟩
    · obtain ⟨g', h3, h4⟩ := h.yes i y (by omega) hy hy2
      exact ⟨g', List.mem_cons_of_mem _ h3, (updF_other _ _ (hg _ h3)).trans h4⟩
  · rcases List.mem_cons.1 hp with h3 | h3
    · exact ⟨k, x, by omega, hx, h2, by rw [h3]⟩
    · obtain ⟨i, y, hi, r⟩ := h.nms p h3
      exact ⟨i, y, by omega, r⟩
  · show (((fnm k, g) :: S.now).map (·.2)).Nodup
    rw [List.map_cons, List.nodup_cons]
    refine ⟨fun hm => ?_, h.gnd⟩
    obtain ⟨p, hp, e3⟩ := List.mem_map.1 hm
    exact hg p hp e3
  · show (((fnm k, g) :: S.now).map (·.1)).Nodup
    rw [List.map_cons, List.nodup_cons]
    exact ⟨fun hm => (lk_none_iff.1 hlk) hm, h.knd⟩
  · show usd (updF S.fl g (x.d, x.d.length)) ((fnm k, g) :: S.now) = _
    rw [et, sizeI_snoc, if_pos h2, ← h.us]
    have : usd (updF S.fl g (x.d, x.d.length)) ((fnm k, g) :: S.now) = x.d.length + usd (updF S.fl g (x.d, x.d.length)) S.now := by
      unfold usd; rw [List.map_cons, List.sum_cons, updF_same]
    rw [this, usd_upd' hg]; omega

/-- The files F0 of the items l, safe; beside them at most h. i: rounds. -/
structure BI (l : List It) (F0 : Fo) (i : Nat) (S : DS) : Prop where
  left : S.left = -1
  dead : S.dead = false
  room : S.room = 1048576
  now : S.now = F0 ∨ ∃ b, S.now = (hX, b) :: F0 ∧ (S.fl b).1.length ≤ 100 ∧ ∀ p ∈ F0, p.2 ≠ b
  sure : S.sure = F0
  len : F0.length = cntF l
  yes : ∀ i x, l[i]? = some x → x.k = 2 → ∃ g, (fnm i, g) ∈ F0 ∧ S.fl g = (x.d, x.d.length)
  nms : ∀ p ∈ F0, ∃ i x, l[i]? = some x ∧ x.k = 2 ∧ p.1 = fnm i
  gnd : (F0.map (·.2)).Nodup
  knd : Kd F0
  us : usd S.fl F0 = sizeI l
  st : S.steps.length ≤ 2 * i
  sts : ∀ s ∈ S.steps, (s.what = 0 ∧ s.nm = gX ∨ s.what = 1 ∧ s.nm = gX ∧ s.to = hX) ∧ ∀ p ∈ F0, p.2 ≠ s.g
/-- Settle. -/
theorem FI.settle {l : List It} {S : DS} {n : Nat} (hn : n = l.length) (h : FI l n S) : seE S = 0 ∧ BI l S.now 0 (seS S) ∧ (seS S).now = S.now := by
  subst hn
  have hdi := h.die
  have e3 : seS S = ⟨S.room, S.now, S.now, [], S.left, S.dead, S.fl⟩ := by unfold seS; rw [hdi]; simp [h.dead, settS]
  rw [e3]
  have et : l.take l.length = l := List.take_length
  refine ⟨by unfold seE; rw [hdi]; simp [h.dead], ⟨h.left, h.dead, h.room, .inl rfl, rfl, by rw [h.len, et], fun i x hx h2 => h.yes i x (List.getElem?_eq_some_iff.1 hx).1 hx h2, fun p hp => ?_, h.gnd, h.knd, by show usd S.fl S.now = _; rw [h.us, et], Nat.le_refl _, fun s hs => (by cases hs)⟩, rfl⟩
  obtain ⟨i, x, _, r⟩ := h.nms p hp
  exact ⟨i, x, r⟩
theorem BI.die {l : List It} {F0 : Fo} {i : Nat} {S : DS} (h : BI l F0 i S) : dieS S = S := dieS_live (by rw [h.left]; decide)
theorem BI.f0 {l : List It} {F0 : Fo} {i : Nat} {S : DS} (h : BI l F0 i S) : lk F0 gX = none ∧ lk F0 hX = none := by
  constructor <;>
  · rw [lk_none_iff]
    intro hm
    obtain ⟨p, hp, e⟩ := List.mem_map.1 hm
    obtain ⟨j, x, _, _, e2⟩ := h.nms p hp
    rw [e2] at e
    first | exact (fnm_ne j).1 e | exact (fnm_ne j).2 e
theorem hX_ne : hX ≠ gX := by decide
theorem BI.noG {l : List It} {F0 : Fo} {i : Nat} {S : DS} (h : BI l F0 i S) : lk S.now gX = none := by
  rcases h.now with e | ⟨b, e, _⟩
  · rw [e]; exact h.f0.1
  · rw [e, lk_cons, if_neg hX_ne]; exact h.f0.1
theorem BI.used {l : List It} {F0 : Fo} {i : Nat} {S : DS} (h : BI l F0 i S) : usd S.fl S.now ≤ sizeI l + 100 := by
  rcases h.now with e | ⟨b, e, hb, _⟩
  · rw [e, h.us]; omega
  · rw [e]; unfold usd; rw [List.map_cons, List.sum_cons]
    have h1 := h.us; unfold usd at h1
    have h2 : (S.fl ((hX, b) : List UInt8 × Nat).2).1.length ≤ 100 := hb
    generalize (S.fl ((hX, b) : List UInt8 × Nat).2).1.length = c at *
    omega
theorem nm_g : nameD gX = true := by decide
theorem nm_h : nameD hX = true := by decide
/-- Append to g, Rename g to h. -/
theorem BI.round {l : List It} {F0 : Fo} {i : Nat} {S : DS} (h : BI l F0 i S) {d : List UInt8} (hd : d.length ≤ 100) (hs : sizeI l ≤ 1000000) (g : Nat) (hg : ∀ p ∈ S.now, p.2 ≠ g) :
    apE S gX d = 0 ∧ rnE (apS S gX d g) gX hX = 0 ∧ (apS S gX d g).now.length ≤ F0.length + 2 ∧ (apS S gX d g).steps.length ≤ 2 * i + 1 ∧ BI l F0 (i + 1) (rnS (apS S gX d g) gX hX) := by
  have hlk := h.noG
  have hu := h.used
  have e : apE S gX d = 0 := by
    unfold apE; rw [h.die, h.dead, nm_g, h.room]; simp; omega
  have en : doF S.now ⟨0, g, gX, []⟩ = (gX, g) :: S.now := by
    unfold doF; rw [if_pos ⟨rfl, hlk⟩]; unfold pt; rw [dl_none' hlk]
  have e1 : apS S gX d g = ⟨S.room, (gX, g) :: S.now, S.sure, S.steps ++ [⟨0, g, gX, []⟩], S.left, S.dead, updF S.fl g (d, 0)⟩ := by
    unfold apS; rw [if_pos e, hlk, h.die]; unfold takeS; rw [en]
  rw [e1]
  have hl : S.left < 0 := by rw [h.left]; decide
  have hdi : dieS ⟨S.room, (gX, g) :: S.now, S.sure, S.steps ++ [⟨0, g, gX, []⟩], S.left, S.dead, updF S.fl g (d, 0)⟩ = ⟨S.room, (gX, g) :: S.now, S.sure, S.steps ++ [⟨0, g, gX, []⟩], S.left, S.dead, updF S.fl g (d, 0)⟩ := dieS_live hl
  have hlk2 : lk ((gX, g) :: S.now) gX = some g := by rw [lk_cons, if_pos rfl]
  have hrn : rnE ⟨S.room, (gX, g) :: S.now, S.sure, S.steps ++ [⟨0, g, gX, []⟩], S.left, S.dead, updF S.fl g (d, 0)⟩ gX hX = 0 := by
    unfold rnE; rw [hdi]; simp only [h.dead, hlk2, nm_h]; simp
  have hF0 : ∀ p ∈ F0, p ∈ S.now := by
    intro p hp
    rcases h.now with e | ⟨b, e, _⟩
    · rw [e]; exact hp
    · rw [e]; exact List.mem_cons_of_mem _ hp
  have edn : dl S.now hX = F0 := by
    rcases h.now with e | ⟨b, e, _⟩
    · rw [e, dl_none' h.f0.2]
    · rw [e]
      have : dl ((hX, b) :: F0) hX = dl F0 hX := by simp [dl]
      rw [this, dl_none' h.f0.2]
  have e2 : doF ((gX, g) :: S.now) ⟨1, g, gX, hX⟩ = (hX, g) :: F0 := by
    unfold doF
    rw [if_neg (by simp), if_pos ⟨rfl, hlk2⟩]
    unfold pt
    have : dl ((gX, g) :: S.now) gX = S.now := by
      have h5 : dl ((gX, g) :: S.now) gX = dl S.now gX := by simp [dl]
      rw [h5, dl_none' hlk]
    rw [this, edn]
  have e3 : rnS ⟨S.room, (gX, g) :: S.now, S.sure, S.steps ++ [⟨0, g, gX, []⟩], S.left, S.dead, updF S.fl g (d, 0)⟩ gX hX = ⟨S.room, (hX, g) :: F0, S.sure, S.steps ++ [⟨0, g, gX, []⟩] ++ [⟨1, g, gX, hX⟩], S.left, S.dead, updF S.fl g (d, 0)⟩ := by
    unfold rnS; rw [if_pos hrn, hdi]; simp only [hlk2]; unfold takeS; simp only [e2]
  rw [e3]
  have hg0 : ∀ p ∈ F0, p.2 ≠ g := fun p hp => hg p (hF0 p hp)
  have hnl : S.now.length ≤ F0.length + 1 := by
    rcases h.now with e | ⟨b, e, _⟩ <;> rw [e]
    · omega
    · simp
  refine ⟨e, hrn, by show ((gX, g) :: S.now).length ≤ _; simp; omega, by show (S.steps ++ [_]).length ≤ _; have := h.st; simp; omega, h.left, h.dead, h.room, .inr ⟨g, rfl, by show (updF S.fl g (d, 0) g).1.length ≤ 100; rw [updF_same]; exact hd, hg0⟩, h.sure, h.len, fun j x hx h2 => ?_, h.nms, h.gnd, h.knd, by show usd (updF S.fl g (d, 0)) F0 = _; rw [usd_upd' hg0]; exact h.us, by show (S.steps ++ [_] ++ [_]).length ≤ _; have := h.st; simp; omega, fun s hs => ?_⟩
  · obtain ⟨g', h3, h4⟩ := h.yes j x hx h2
    exact ⟨g', h3, (updF_other _ _ (hg0 _ h3)).trans h4⟩
  · rcases List.mem_append.1 hs with h3 | h3
    · rcases List.mem_append.1 h3 with h4 | h4
      · exact h.sts s h4
      · rw [List.mem_singleton] at h4; subst h4; exact ⟨.inl ⟨rfl, rfl⟩, hg0⟩
    · rw [List.mem_singleton] at h3; subst h3; exact ⟨.inr ⟨rfl, rfl, rfl⟩, hg0⟩
/-- What a crash makes of the folder. -/
theorem dl_app (Y F0 : Fo) (x : List UInt8) (h : lk F0 x = none) : dl (Y ++ F0) x = dl Y x ++ F0 := by
  have := dl_none' h
  unfold dl at this ⊢
  rw [List.filter_append, this]
theorem crF_side (ks : List Int) (F0 : Fo) (hg : lk F0 gX = none) (hh : lk F0 hX = none) : ∀ (l : List Stp) (i : Nat) (Y : Fo), (∀ s ∈ l, (s.what = 0 ∧ s.nm = gX ∨ s.what = 1 ∧ s.nm = gX ∧ s.to = hX) ∧ ∀ p ∈ F0, p.2 ≠ s.g) → (∀ p ∈ Y, (p.1 = gX ∨ p.1 = hX) ∧ ∀ q ∈ F0, q.2 ≠ p.2) → Kd (Y ++ F0) →
    ∃ Z, crF ks i l (Y ++ F0) = Z ++ F0 ∧ (∀ p ∈ Z, (p.1 = gX ∨ p.1 = hX) ∧ ∀ q ∈ F0, q.2 ≠ p.2) ∧ Kd (Z ++ F0)
  | [], i, Y, _, hY, hk => ⟨Y, rfl, hY, hk⟩
  | s :: l, i, Y, hs, hY, hk => by
    rw [crF]
    have hr := fun t ht => hs t (List.mem_cons_of_mem _ ht)
    by_cases h0 : (kpN ks i).tmod 2 = 0
    · rw [if_pos h0]
      exact crF_side ks F0 hg hh l (i + 1) Y hr hY hk
    · rw [if_neg h0]
      obtain ⟨h1, h2⟩ := hs s List.mem_cons_self
      have hone : ∃ Y', doF (Y ++ F0) s = Y' ++ F0 ∧ ∀ p ∈ Y', (p.1 = gX ∨ p.1 = hX) ∧ ∀ q ∈ F0, q.2 ≠ p.2 := by
        have hdm : ∀ x, ∀ p ∈ dl Y x, (p.1 = gX ∨ p.1 = hX) ∧ ∀ q ∈ F0, q.2 ≠ p.2 := fun x p hp => hY p (dl_mem hp).1
        unfold doF
        split
        · rename_i e
          have e5 : s.nm = gX := by
            rcases h1 with h1 | h1
            · exact h1.2
            · exact h1.2.1
          refine ⟨(s.nm, s.g) :: dl Y s.nm, ?_, fun p hp => ?_⟩
          · unfold pt; rw [dl_app _ _ _ (by rw [e5]; exact hg)]; rfl
          · rcases List.mem_cons.1 hp with h3 | h3
            · rw [h3]; exact ⟨.inl e5, h2⟩
            · exact hdm _ p h3
        · split
          · rename_i e0 e
            have e5 : s.nm = gX ∧ s.to = hX := by
              rcases h1 with h1 | h1
              · rw [h1.1] at e; exact absurd e.1 (by decide)
              · exact h1.2
            refine ⟨(s.to, s.g) :: dl (dl Y s.nm) s.to, ?_, fun p hp => ?_⟩
            · unfold pt; rw [dl_app _ _ _ (by rw [e5.1]; exact hg), dl_app _ _ _ (by rw [e5.2]; exact hh)]; rfl
            · rcases List.mem_cons.1 hp with h3 | h3
              · rw [h3]; exact ⟨.inr e5.2, h2⟩
              · exact hdm _ p (dl_mem h3).1
          · split
            · rename_i e
              rcases h1 with h1 | h1 <;> rw [h1.1] at e <;> exact absurd e.1 (by decide)
            · exact ⟨Y, rfl, hY⟩
      obtain ⟨Y', e, hY'⟩ := hone
      have hk' : Kd (Y' ++ F0) := by rw [← e]; exact doF_Kd hk s
      rw [e]
      exact crF_side ks F0 hg hh l (i + 1) Y' hr hY' hk'
theorem two_le {Y : Fo} (h : Kd Y) (hn : ∀ p ∈ Y, p.1 = gX ∨ p.1 = hX) : Y.length ≤ 2 := by
  match Y, h, hn with
  | [], _, _ => simp
  | [_], _, _ => simp
  | [_, _], _, _ => simp
  | a :: b :: c :: r, h, hn =>
    exfalso
    unfold Kd at h
    simp only [List.map_cons, List.nodup_cons, List.mem_cons, not_or] at h
    have ha := hn a (by simp)
    have hb := hn b (by simp)
    have hc := hn c (by simp)
    obtain ⟨⟨h1, h2, _⟩, ⟨h3, _⟩, _⟩ := h
    rcases ha with ha | ha <;> rcases hb with hb | hb <;> rcases hc with hc | hc <;> simp_all
theorem gnd_inj : ∀ {F : Fo} {x y : List UInt8} {g : Nat}, (F.map (·.2)).Nodup → (x, g) ∈ F → (y, g) ∈ F → x = y
  | [], _, _, _, _, h, _ => (by cases h)
  | p :: F, x, y, g, hn, h1, h2 => by
    rw [List.map_cons, List.nodup_cons] at hn
    rcases List.mem_cons.1 h1 with e1 | e1 <;> rcases List.mem_cons.1 h2 with e2 | e2
    · rw [← e1] at e2; injection e2 with e3; exact e3.symm
    · exact absurd (List.mem_map.2 ⟨_, e2, by rw [← e1]⟩) hn.1
    · exact absurd (List.mem_map.2 ⟨_, e1, by rw [← e2]⟩) hn.1
    · exact gnd_inj hn.2 e1 e2
/-- Behind a crash. -/
structure CI (l : List It) (S : DS) : Prop where
  dead : S.dead = false
  yes : ∀ i x, i < 20 → l[i]? = some x → x.k = 2 → rdE S (fnm i) = 0 ∧ rdV S (fnm i) = x.d
  no : ∀ i x, i < 20 → l[i]? = some x → x.k ≠ 2 → rdE S (fnm i) = 7
  lo : cntF l ≤ S.now.length
  hi : S.now.length ≤ cntF l + 2
  us : sizeI l ≤ usd S.fl S.now
theorem BI.crash {l : List It} {F0 : Fo} {i : Nat} {S : DS} (h : BI l F0 i S) (hl : l.length ≤ 20) (ks : List Int) : CI l (crS S ks) := by
  obtain ⟨Z, hZ, hZ1, hZk⟩ := crF_side ks F0 h.f0.1 h.f0.2 S.steps 0 [] h.sts (fun p hp => (by cases hp)) h.knd
  have hZ : crF ks 0 S.steps S.sure = Z ++ F0 := by rw [h.sure]; simpa using hZ
  have e : crS S ks = ⟨S.room, Z ++ F0, Z ++ F0, [], -1, false, crC ks (Z ++ F0) S.steps.length (Go.Proofs.YtmjfcneofpddiaaDoor.nms (Z ++ F0)) S.fl⟩ := by unfold crS; simp only [hZ]
  have hfl : ∀ j x, l[j]? = some x → x.k = 2 → ∃ g, lk (Z ++ F0) (fnm j) = some g ∧ (crC ks (Z ++ F0) S.steps.length (Go.Proofs.YtmjfcneofpddiaaDoor.nms (Z ++ F0)) S.fl g) = (x.d, x.d.length) := by
    intro j x hx h2
    obtain ⟨g, h3, h4⟩ := h.yes j x hx h2
    have hlk : lk (Z ++ F0) (fnm j) = some g := lk_of_mem hZk (List.mem_append_right _ h3)
    have ho : ∀ y, y ≠ fnm j → lk (Z ++ F0) y ≠ some g := by
      intro y hy e5
      rcases List.mem_append.1 (lk_some_mem e5) with h6 | h6
      · exact (hZ1 _ h6).2 _ h3 rfl
      · exact hy (gnd_inj h.gnd h6 h3)
    obtain ⟨z, hz⟩ := (crC_at ks _ g (fnm j) hlk ho (Go.Proofs.YtmjfcneofpddiaaDoor.nms (Z ++ F0)) S.steps.length S.fl (nms_nodup hZk)).2 (by unfold Go.Proofs.YtmjfcneofpddiaaDoor.nms; rw [List.mem_mergeSort]; exact List.mem_map.2 ⟨_, List.mem_append_right _ h3, rfl⟩)
    refine ⟨g, hlk, hz.trans ?_⟩
    rw [h4]
    unfold cutF
    simp only [Nat.sub_self, Nat.zero_add]
    have : ((z.tmod ((1 : Nat) : Int) + ((1 : Nat) : Int)).tmod ((1 : Nat) : Int)).toNat = 0 := by simp
    rw [this, Nat.add_zero, List.take_length]
  rw [e]
  refine ⟨rfl, fun j x hj hx h2 => ?_, fun j x hj hx h2 => ?_, ?_, ?_, ?_⟩
  · obtain ⟨g, h3, h4⟩ := hfl j x hx h2
    unfold rdE rdV
    simp only [h3, h4]
    simp
  · have : lk (Z ++ F0) (fnm j) = none := by
      rw [lk_none_iff]
      intro hm
      obtain ⟨p, hp, e5⟩ := List.mem_map.1 hm
      rcases List.mem_append.1 hp with h6 | h6
      · rcases (hZ1 p h6).1 with h7 | h7
        · exact (fnm_ne j).1 (by rw [← e5, h7])
        · exact (fnm_ne j).2 (by rw [← e5, h7])
      · obtain ⟨i', x', hx', h7, h8⟩ := h.nms p h6
        have := (List.getElem?_eq_some_iff.1 hx').1
        have h9 := fnm_inj i' j (by omega) hj (by rw [← h8, e5])
        subst h9
        rw [hx] at hx'; injection hx' with hx'; subst hx'
        exact h2 h7
    unfold rdE
    simp [this]
  · show cntF l ≤ (Z ++ F0).length
    rw [List.length_append, h.len]; omega
  · show (Z ++ F0).length ≤ _
    have hZ2 : Kd Z := by
      unfold Kd at hZk ⊢
      rw [List.map_append, List.nodup_append] at hZk
      exact hZk.1
    have := two_le hZ2 (fun p hp => (hZ1 p hp).1)
    rw [List.length_append, h.len]; omega
  · show sizeI l ≤ usd _ (Z ++ F0)
    have h5 : usd (crC ks (Z ++ F0) S.steps.length (Go.Proofs.YtmjfcneofpddiaaDoor.nms (Z ++ F0)) S.fl) (Z ++ F0) = usd (crC ks (Z ++ F0) S.steps.length (Go.Proofs.YtmjfcneofpddiaaDoor.nms (Z ++ F0)) S.fl) Z + usd (crC ks (Z ++ F0) S.steps.length (Go.Proofs.YtmjfcneofpddiaaDoor.nms (Z ++ F0)) S.fl) F0 := by
      unfold usd; rw [List.map_append, List.sum_append_nat]
    have h6 : usd (crC ks (Z ++ F0) S.steps.length (Go.Proofs.YtmjfcneofpddiaaDoor.nms (Z ++ F0)) S.fl) F0 = usd S.fl F0 := by
      unfold usd
      congr 1
      refine List.map_congr_left fun p hp => ?_
      obtain ⟨j, x, hx, h7, h8⟩ := h.nms p hp
      obtain ⟨g, h9, h10⟩ := hfl j x hx h7
      have h11 : lk (Z ++ F0) p.1 = some p.2 := lk_of_mem hZk (List.mem_append_right _ hp)
      rw [h8, h9] at h11
      injection h11 with h11
      obtain ⟨g', h12, h13⟩ := h.yes j x hx h7
      have h14 : lk (Z ++ F0) (fnm j) = some g' := lk_of_mem hZk (List.mem_append_right _ h12)
      rw [h9] at h14
      injection h14 with h14
      rw [← h11, h10, h14, h13]
    rw [h5, h6, h.us]; omega
end Go.Proofs.YtmjfcneofpddiaaDoor
