/- What calls leave of a disk on which no file is called mine; and a file that is synced and settled (pure). -/
import Derived.Test.YtmjfcneofpddiaaDoorQDskN
namespace Go.Proofs.YtmjfcneofpddiaaDoor
set_option linter.unusedVariables false
set_option linter.unusedSimpArgs false

def mineX : List UInt8 := [109, 105, 110, 101]
/-- Behind i calls. -/
structure SI (S : DS) (i : Nat) : Prop where
  left : S.left = -1
  dead : S.dead = false
  room : S.room = 100000
  nowN : ∀ p ∈ S.now, p.1 ≠ mineX
  sureN : ∀ p ∈ S.sure, p.1 ≠ mineX
  stN : ∀ s ∈ S.steps, s.nm ≠ mineX ∧ s.to ≠ mineX
  len1 : S.now.length ≤ i
  len2 : S.sure.length + S.steps.length ≤ i
  big : ∀ g, (S.fl g).1.length ≤ 60 * i
theorem SI.new : SI (newS 100000) 0 := ⟨rfl, rfl, rfl, fun p hp => (by cases hp), fun p hp => (by cases hp), fun s hs => (by cases hs), Nat.le_refl _, Nat.le_refl _, fun g => Nat.le_refl _⟩
theorem SI.up {S : DS} {i : Nat} (h : SI S i) : SI S (i + 1) :=
  ⟨h.left, h.dead, h.room, h.nowN, h.sureN, h.stN, by have := h.len1; omega, by have := h.len2; omega, fun g => by have := h.big g; omega⟩
theorem SI.die {S : DS} {i : Nat} (h : SI S i) : dieS S = S := dieS_live (by rw [h.left]; decide)
theorem SI.fl {S : DS} {i : Nat} (h : SI S i) (fl : Nat → List UInt8 × Nat) (hf : ∀ g, (fl g).1.length ≤ 60 * (i + 1)) : SI { S with fl := fl } (i + 1) :=
  ⟨h.left, h.dead, h.room, h.nowN, h.sureN, h.stN, by have := h.len1; show S.now.length ≤ _; omega, by have := h.len2; show S.sure.length + S.steps.length ≤ _; omega, hf⟩
theorem updF_big {fl : Nat → List UInt8 × Nat} {n m : Nat} (h : ∀ g, (fl g).1.length ≤ n) (hnm : n ≤ m) (g : Nat) (v : List UInt8 × Nat) (hv : v.1.length ≤ m) : ∀ k, (updF fl g v k).1.length ≤ m := fun k => by
  unfold updF; split
  · exact hv
  · have := h k; omega
theorem SI.take {S : DS} {i : Nat} (h : SI S i) (s : Stp) (h1 : s.nm ≠ mineX) (h2 : s.to ≠ mineX) : SI (takeS S s) (i + 1) := by
  refine ⟨h.left, h.dead, h.room, fun p hp => ?_, h.sureN, fun t ht => ?_, ?_, ?_, fun g => by have := h.big g; show (S.fl g).1.length ≤ _; omega⟩
  · rcases doF_mem hp with h3 | ⟨_, h3 | h3⟩
    · exact h.nowN p h3
    · rw [h3]; exact h1
    · rw [h3]; exact h2
  · rcases List.mem_append.1 ht with h3 | h3
    · exact h.stN t h3
    · rw [List.mem_singleton] at h3; subst h3; exact ⟨h1, h2⟩
  · have := doF_len S.now s; have := h.len1; show (doF S.now s).length ≤ _; omega
  · have := h.len2; show S.sure.length + (S.steps ++ [s]).length ≤ _; rw [List.length_append]; simp; omega
theorem mine_ne : ([] : List UInt8) ≠ mineX := by decide
theorem SI.ap {S : DS} {i : Nat} (h : SI S i) {x d : List UInt8} (hx : x ≠ mineX) (hd : d.length ≤ 60) (g : Nat) : SI (apS S x d g) (i + 1) := by
  unfold apS
  rw [h.die]
  split
  · split
    · rename_i k hk
      refine h.fl _ (updF_big h.big (by omega) k _ ?_)
      show ((S.fl k).1 ++ d).length ≤ _
      rw [List.length_append]; have := h.big k; omega
    · have ht := h.take ⟨0, g, x, []⟩ hx mine_ne
      exact ⟨ht.left, ht.dead, ht.room, ht.nowN, ht.sureN, ht.stN, ht.len1, ht.len2, updF_big h.big (by omega) g _ (by show d.length ≤ _; omega)⟩
  · exact h.up
theorem SI.sy {S : DS} {i : Nat} (h : SI S i) (x : List UInt8) : SI (syS S x) (i + 1) := by
  unfold syS
  rw [h.die]
  split
  · exact h.up
  · split
    · rename_i k hk
      exact h.fl _ (updF_big h.big (by omega) k _ (by have := h.big k; show (S.fl k).1.length ≤ _; omega))
    · exact h.up
theorem SI.rn {S : DS} {i : Nat} (h : SI S i) {x y : List UInt8} (hx : x ≠ mineX) (hy : y ≠ mineX) : SI (rnS S x y) (i + 1) := by
  unfold rnS
  rw [h.die]
  split
  · split
    · exact h.take _ hx hy
    · exact h.up
  · exact h.up
theorem SI.rm {S : DS} {i : Nat} (h : SI S i) {x : List UInt8} (hx : x ≠ mineX) : SI (rmS S x) (i + 1) := by
  unfold rmS
  rw [h.die]
  split
  · split
    · exact h.take _ hx mine_ne
    · exact h.up
  · exact h.up
theorem SI.se {S : DS} {i : Nat} (h : SI S i) : SI (seS S) (i + 1) := by
  unfold seS
  rw [h.die]
  split
  · exact h.up
  · exact ⟨h.left, h.dead, h.room, h.nowN, h.nowN, fun s hs => (by cases hs), by have := h.len1; show S.now.length ≤ _; omega, by have := h.len1; show S.now.length + 0 ≤ _; omega, fun g => by have := h.big g; show (S.fl g).1.length ≤ _; omega⟩
theorem SI.sp {S : DS} {i : Nat} (h : SI S i) (x : List UInt8) (k : Int) (c : UInt8) : SI (spS S x k c) (i + 1) := by
  unfold spS
  split
  · split
    · exact h.up
    · rename_i g hg
      exact h.fl _ (updF_big h.big (by omega) g _ (by have := h.big g; show ((S.fl g).1.set _ _).length ≤ _; rw [List.length_set]; omega))
  · exact h.up
theorem cutF_len (f : List UInt8 × Nat) (n : Int) : (cutF f n).1.length ≤ f.1.length := by unfold cutF; simp only; rw [List.length_take]; omega
theorem crC_big (ks : List Int) (F : Fo) (N : Nat) : ∀ (l : List (List UInt8)) (j : Nat) (fl : Nat → List UInt8 × Nat), (∀ g, (fl g).1.length ≤ N) → ∀ g, (crC ks F j l fl g).1.length ≤ N
  | [], _, _, h, g => h g
  | x :: l, j, fl, h, g => by
    rw [crC]
    refine crC_big ks F N l (j + 1) _ (fun k => ?_) g
    cases lk F x with
    | none => exact h k
    | some g' => exact updF_big h (Nat.le_refl _) g' _ (by have := cutF_len (fl g') (kpN ks j); have := h g'; omega) k
theorem crF_facts (ks : List Int) : ∀ (l : List Stp) (i : Nat) (F : Fo), (∀ s ∈ l, s.nm ≠ mineX ∧ s.to ≠ mineX) → (∀ p ∈ F, p.1 ≠ mineX) → (∀ p ∈ crF ks i l F, p.1 ≠ mineX) ∧ (crF ks i l F).length ≤ F.length + l.length
  | [], _, F, _, h => ⟨h, Nat.le_refl _⟩
  | s :: l, i, F, hs, h => by
    rw [crF]
    have h0 := hs s List.mem_cons_self
    have hF : (∀ p ∈ (if (kpN ks i).tmod 2 = 0 then F else doF F s), p.1 ≠ mineX) ∧ (if (kpN ks i).tmod 2 = 0 then F else doF F s).length ≤ F.length + 1 := by
      split
      · exact ⟨h, by omega⟩
      · refine ⟨fun p hp => ?_, doF_len F s⟩
        rcases doF_mem hp with h3 | ⟨_, h3 | h3⟩
        · exact h p h3
        · rw [h3]; exact h0.1
        · rw [h3]; exact h0.2
    obtain ⟨r1, r2⟩ := crF_facts ks l (i + 1) _ (fun t ht => hs t (List.mem_cons_of_mem _ ht)) hF.1
    exact ⟨r1, by rw [List.length_cons]; have := hF.2; omega⟩
theorem SI.cr {S : DS} {i : Nat} (h : SI S i) (ks : List Int) : SI (crS S ks) (i + 1) := by
  obtain ⟨r1, r2⟩ := crF_facts ks S.steps 0 S.sure h.stN h.sureN
  have := h.len2
  exact ⟨rfl, rfl, h.room, r1, r1, fun s hs => (by cases hs), by show (crF ks 0 S.steps S.sure).length ≤ _; omega, by show (crF ks 0 S.steps S.sure).length + 0 ≤ _; omega, crC_big ks _ _ _ _ _ (fun g => by have := h.big g; omega)⟩
theorem usd_bd {fl : Nat → List UInt8 × Nat} {F : Fo} {N : Nat} (h : ∀ p ∈ F, (fl p.2).1.length ≤ N) : usd fl F ≤ F.length * N := by
  unfold usd
  induction F with
  | nil => simp
  | cons a l ih =>
    rw [List.map_cons, List.sum_cons, List.length_cons, Nat.succ_mul]
    have h1 := h a List.mem_cons_self
    have h2 := ih (fun p hp => h p (List.mem_cons_of_mem _ hp))
    omega
theorem SI.used {S : DS} {i : Nat} (h : SI S i) (hi : i ≤ 40) : usd S.fl S.now ≤ 96000 := by
  have h1 := usd_bd (F := S.now) (fun p _ => h.big p.2)
  have h2 : S.now.length * (60 * i) ≤ 40 * (60 * 40) := Nat.mul_le_mul (by have := h.len1; omega) (by omega)
  omega
theorem SI.lkn {S : DS} {i : Nat} (h : SI S i) : lk S.now mineX = none := by
  rw [lk_none_iff]
  intro hm
  obtain ⟨p, hp, e⟩ := List.mem_map.1 hm
  exact h.nowN p hp e

/-- The file mine in block g, synced and settled with k bytes; others beside it. -/
structure MI (S : DS) (g k : Nat) (all : List UInt8) (N : Fo) : Prop where
  left : S.left = -1
  dead : S.dead = false
  room : S.room = 100000
  now : S.now = (mineX, g) :: N
  sure : S.sure = (mineX, g) :: N
  steps : S.steps = []
  nm : ∀ p ∈ N, p.1 ≠ mineX ∧ p.2 ≠ g
  len : N.length ≤ 40
  us : usd S.fl N ≤ 96000
  fl : S.fl g = (all, k)
theorem nameD_mine : nameD mineX = true := by decide
theorem dl_none' {F : Fo} {x : List UInt8} (h : lk F x = none) : dl F x = F := by
  rw [lk_none_iff] at h
  unfold dl
  rw [List.filter_eq_self]
  intro p hp
  simp only [bne_iff_ne]
  intro e
  exact h (List.mem_map.2 ⟨p, hp, e⟩)
theorem usd_upd' {fl : Nat → List UInt8 × Nat} {F : Fo} {g : Nat} {v : List UInt8 × Nat} (h : ∀ p ∈ F, p.2 ≠ g) : usd (updF fl g v) F = usd fl F := by
  unfold usd
  congr 1
  refine List.map_congr_left fun p hp => ?_
  rw [updF_other _ _ (h p hp)]
/-- Append, Sync, Settle. -/
theorem SI.mine {S : DS} {i : Nat} (h : SI S i) (hi : i ≤ 40) {d : List UInt8} (hd : d.length ≤ 200) (g : Nat) (hg : ∀ p ∈ S.now, p.2 ≠ g) :
    apE S mineX d = 0 ∧ (apS S mineX d g).now.length ≤ 41 ∧ (apS S mineX d g).steps.length ≤ 41 ∧ syE (apS S mineX d g) mineX = 0 ∧ seE (syS (apS S mineX d g) mineX) = 0 ∧ MI (seS (syS (apS S mineX d g) mineX)) g d.length d S.now := by
  have hu := h.used hi
  have hk := h.lkn
  have e : apE S mineX d = 0 := by
    unfold apE; rw [h.die, h.dead, nameD_mine, h.room]; simp; omega
  have es : apS S mineX d g = { takeS S ⟨0, g, mineX, []⟩ with fl := updF S.fl g (d, 0) } := by unfold apS; rw [if_pos e, hk, h.die]
  have en : doF S.now ⟨0, g, mineX, []⟩ = (mineX, g) :: S.now := by
    unfold doF; rw [if_pos ⟨rfl, hk⟩]; unfold pt; rw [dl_none' hk]
  have e1 : apS S mineX d g = ⟨S.room, (mineX, g) :: S.now, S.sure, S.steps ++ [⟨0, g, mineX, []⟩], S.left, S.dead, updF S.fl g (d, 0)⟩ := by
    rw [es]; unfold takeS; rw [en]
  rw [e1]
  have hl : S.left < 0 := by rw [h.left]; decide
  have hdi1 : dieS ⟨S.room, (mineX, g) :: S.now, S.sure, S.steps ++ [⟨0, g, mineX, []⟩], S.left, S.dead, updF S.fl g (d, 0)⟩ = ⟨S.room, (mineX, g) :: S.now, S.sure, S.steps ++ [⟨0, g, mineX, []⟩], S.left, S.dead, updF S.fl g (d, 0)⟩ := dieS_live hl
  have hlk : lk ((mineX, g) :: S.now) mineX = some g := by rw [lk_cons, if_pos rfl]
  have hsy : syE ⟨S.room, (mineX, g) :: S.now, S.sure, S.steps ++ [⟨0, g, mineX, []⟩], S.left, S.dead, updF S.fl g (d, 0)⟩ mineX = 0 := by
    unfold syE; rw [hdi1]; simp only [h.dead, hlk]; simp
  have e2 : syS ⟨S.room, (mineX, g) :: S.now, S.sure, S.steps ++ [⟨0, g, mineX, []⟩], S.left, S.dead, updF S.fl g (d, 0)⟩ mineX = ⟨S.room, (mineX, g) :: S.now, S.sure, S.steps ++ [⟨0, g, mineX, []⟩], S.left, S.dead, updF S.fl g (d, d.length)⟩ := by
    unfold syS; rw [hdi1]; simp only [h.dead, hlk, updF_same]
    simp
    funext k; unfold updF; split <;> rfl
  rw [e2]
  have hdi2 : dieS ⟨S.room, (mineX, g) :: S.now, S.sure, S.steps ++ [⟨0, g, mineX, []⟩], S.left, S.dead, updF S.fl g (d, d.length)⟩ = ⟨S.room, (mineX, g) :: S.now, S.sure, S.steps ++ [⟨0, g, mineX, []⟩], S.left, S.dead, updF S.fl g (d, d.length)⟩ := dieS_live hl
  have hse : seE ⟨S.room, (mineX, g) :: S.now, S.sure, S.steps ++ [⟨0, g, mineX, []⟩], S.left, S.dead, updF S.fl g (d, d.length)⟩ = 0 := by unfold seE; rw [hdi2]; simp [h.dead]
  have e3 : seS ⟨S.room, (mineX, g) :: S.now, S.sure, S.steps ++ [⟨0, g, mineX, []⟩], S.left, S.dead, updF S.fl g (d, d.length)⟩ = ⟨S.room, (mineX, g) :: S.now, (mineX, g) :: S.now, [], S.left, S.dead, updF S.fl g (d, d.length)⟩ := by unfold seS; rw [hdi2]; simp [h.dead, settS]
  rw [e3]
  refine ⟨e, by show ((mineX, g) :: S.now).length ≤ 41; have := h.len1; simp; omega, by show (S.steps ++ [_]).length ≤ 41; have := h.len2; simp; omega, hsy, hse, h.left, h.dead, h.room, rfl, rfl, rfl, fun p hp => ⟨h.nowN p hp, hg p hp⟩, by have := h.len1; omega, ?_, updF_same _ _ _⟩
  show usd (updF S.fl g (d, d.length)) S.now ≤ 96000
  rw [usd_upd' hg]; exact hu
theorem MI.ap {S : DS} {g k : Nat} {all : List UInt8} {N : Fo} (h : MI S g k all N) {d : List UInt8} (hd : all.length + d.length ≤ 4000) (g' : Nat) : apE S mineX d = 0 ∧ MI (apS S mineX d g') g k (all ++ d) N := by
  have hdi : dieS S = S := dieS_live (by rw [h.left]; decide)
  have hlk : lk S.now mineX = some g := by rw [h.now, lk_cons, if_pos rfl]
  have hus : usd S.fl S.now = all.length + usd S.fl N := by rw [h.now]; unfold usd; rw [List.map_cons, List.sum_cons, h.fl]
  have e : apE S mineX d = 0 := by
    unfold apE; rw [hdi, h.dead, nameD_mine, h.room, hus]; have := h.us; simp; omega
  refine ⟨e, ?_⟩
  have es : apS S mineX d g' = { S with fl := updF S.fl g (all ++ d, k) } := by unfold apS; rw [if_pos e, hlk, hdi]; simp only [h.fl]
  rw [es]
  exact ⟨h.left, h.dead, h.room, h.now, h.sure, h.steps, h.nm, h.len, by show usd (updF S.fl g (all ++ d, k)) N ≤ _; rw [usd_upd' (fun p hp => (h.nm p hp).2)]; exact h.us, updF_same _ _ _⟩
/-- What a crash makes of the file g, which one name alone has. -/
theorem crC_at (ks : List Int) (F : Fo) (g : Nat) (x : List UInt8) (hx : lk F x = some g) (ho : ∀ y, y ≠ x → lk F y ≠ some g) : ∀ (l : List (List UInt8)) (j : Nat) (fl : Nat → List UInt8 × Nat), l.Nodup → (x ∉ l → crC ks F j l fl g = fl g) ∧ (x ∈ l → ∃ z, crC ks F j l fl g = cutF (fl g) z)
  | [], j, fl, _ => ⟨fun _ => rfl, fun h => (by cases h)⟩
  | y :: l, j, fl, hn => by
    rw [List.nodup_cons] at hn
    have ih := crC_at ks F g x hx ho l (j + 1)
    by_cases e : y = x
    · subst e
      refine ⟨fun h => absurd List.mem_cons_self h, fun _ => ⟨kpN ks j, ?_⟩⟩
      rw [crC, hx]
      rw [(ih _ hn.2).1 hn.1]
      exact updF_same _ _ _
    · have hk : ∀ fl' : Nat → List UInt8 × Nat, (match lk F y with | some g => updF fl' g (cutF (fl' g) (kpN ks j)) | none => fl') g = fl' g := fun fl' => by
        cases hl : lk F y with
        | none => rfl
        | some g' => exact updF_other _ _ (fun e2 => ho y e (by rw [hl, e2]))
      rw [crC]
      refine ⟨fun h => ?_, fun h => ?_⟩
      · rw [(ih _ hn.2).1 (fun h2 => h (List.mem_cons_of_mem _ h2))]; exact hk fl
      · obtain ⟨z, hz⟩ := (ih (match lk F y with | some g => updF fl g (cutF (fl g) (kpN ks j)) | none => fl) hn.2).2 (by rcases List.mem_cons.1 h with h2 | h2; exact absurd h2.symm e; exact h2)
        exact ⟨z, hz.trans (congrArg (fun f => cutF f z) (hk fl))⟩
theorem nms_nodup {F : Fo} (h : Kd F) : (nms F).Nodup := by unfold nms; exact (List.mergeSort_perm _ _).nodup_iff.2 h
/-- A crash: a beginning of all, at least what was safe, is left, and is safe. -/
theorem MI.cr {S : DS} {g k : Nat} {all : List UInt8} {N : Fo} (h : MI S g k all N) (hkd : Kd S.now) (hk : k ≤ all.length) (ks : List Int) : ∃ m, k ≤ m ∧ m ≤ all.length ∧ (crS S ks).fl g = (all.take m, m) ∧ (crS S ks).now = (mineX, g) :: N ∧ (crS S ks).sure = (mineX, g) :: N ∧ (crS S ks).steps = [] ∧ (crS S ks).dead = false := by
  have hF : crF ks 0 S.steps S.sure = (mineX, g) :: N := by rw [h.steps, h.sure]; rfl
  have e : crS S ks = ⟨S.room, (mineX, g) :: N, (mineX, g) :: N, [], -1, false, crC ks ((mineX, g) :: N) S.steps.length (nms ((mineX, g) :: N)) S.fl⟩ := by unfold crS; simp only [hF]
  have hx : lk ((mineX, g) :: N) mineX = some g := by rw [lk_cons, if_pos rfl]
  have ho : ∀ y, y ≠ mineX → lk ((mineX, g) :: N) y ≠ some g := fun y hy e => by
    rw [lk_cons, if_neg (fun e2 => hy e2.symm)] at e
    exact (h.nm _ (lk_some_mem e)).2 rfl
  have hkd' : Kd ((mineX, g) :: N) := by rw [← h.now]; exact hkd
  obtain ⟨z, hz⟩ := (crC_at ks _ g mineX hx ho (nms ((mineX, g) :: N)) S.steps.length S.fl (nms_nodup hkd')).2 (by unfold nms; rw [List.mem_mergeSort]; simp)
  rw [h.fl] at hz
  rw [e]
  obtain ⟨M, hM⟩ : ∃ M, all.length - k + 1 = M := ⟨_, rfl⟩
  have hr : ((z.tmod M + M).tmod M).toNat < M := by
    have h1 : (z.tmod M + M).tmod M < (M : Int) := Int.tmod_lt_of_pos _ (by omega)
    have h2 := Int.tmod_lt_of_pos (-z) (show (0 : Int) < M by omega)
    rw [Int.neg_tmod] at h2
    have h3 : 0 ≤ (z.tmod M + M).tmod M := Int.tmod_nonneg _ (by omega)
    omega
  refine ⟨k + ((z.tmod M + M).tmod M).toNat, by omega, by omega, ?_, rfl, rfl, rfl, rfl⟩
  show crC ks _ _ _ S.fl g = _
  rw [hz]
  unfold cutF
  simp only [hM]
theorem crC_len (ks : List Int) (F : Fo) : ∀ (l : List (List UInt8)) (j : Nat) (fl : Nat → List UInt8 × Nat) (g : Nat), (crC ks F j l fl g).1.length ≤ (fl g).1.length
  | [], _, _, _ => Nat.le_refl _
  | x :: l, j, fl, g => by
    rw [crC]
    refine Nat.le_trans (crC_len ks F l (j + 1) _ g) ?_
    cases lk F x with
    | none => exact Nat.le_refl _
    | some g' =>
      show (updF fl g' (cutF (fl g') (kpN ks j)) g).1.length ≤ _
      unfold updF
      split
      · rename_i e; subst e; exact cutF_len _ _
      · exact Nat.le_refl _
theorem usd_mono {fl fl' : Nat → List UInt8 × Nat} {F : Fo} (h : ∀ g, (fl' g).1.length ≤ (fl g).1.length) : usd fl' F ≤ usd fl F := by
  unfold usd
  induction F with
  | nil => simp
  | cons a l ih => simp only [List.map_cons, List.sum_cons]; have := h a.2; omega
theorem MI.crash {S : DS} {g k : Nat} {all : List UInt8} {N : Fo} (h : MI S g k all N) (hkd : Kd S.now) (hk : k ≤ all.length) (ks : List Int) : ∃ m, k ≤ m ∧ m ≤ all.length ∧ MI (crS S ks) g m (all.take m) N := by
  obtain ⟨m, h1, h2, h3, h4, h5, h6, h7⟩ := h.cr hkd hk ks
  exact ⟨m, h1, h2, rfl, h7, h.room, h4, h5, h6, h.nm, h.len, Nat.le_trans (usd_mono (fun g => crC_len ks _ _ _ S.fl g)) h.us, h3⟩
theorem MI.rd {S : DS} {g k : Nat} {all : List UInt8} {N : Fo} (h : MI S g k all N) : rdE S mineX = 0 ∧ rdV S mineX = all := by
  have hlk : lk S.now mineX = some g := by rw [h.now, lk_cons, if_pos rfl]
  unfold rdE rdV
  rw [h.dead, hlk]
  exact ⟨rfl, by show (S.fl g).1 = all; rw [h.fl]⟩
theorem MI.lens {S : DS} {g k : Nat} {all : List UInt8} {N : Fo} (h : MI S g k all N) : S.now.length ≤ 41 ∧ S.sure.length ≤ 41 ∧ S.steps.length = 0 := by
  rw [h.now, h.sure, h.steps]
  have := h.len
  simp; omega
end Go.Proofs.YtmjfcneofpddiaaDoor
