/- Replacing a log, adding to it: whole, or not at all (pure). -/
import Derived.Test.YtkaikjlklhcnlaaWalL
namespace Go.Proofs.Ytkaikjlklhcnlaa
set_option linter.unusedVariables false
set_option linter.unusedSimpArgs false

theorem usd_cons (fl : Nat → List UInt8 × Nat) (p : List UInt8 × Nat) (F : Fo) : usd fl (p :: F) = (fl p.2).1.length + usd fl F := by simp [usd]
theorem usd_same {fl fl' : Nat → List UInt8 × Nat} {F : Fo} (h : ∀ p ∈ F, fl' p.2 = fl p.2) : usd fl' F = usd fl F := by
  unfold usd
  congr 1
  exact List.map_congr_left fun p hp => by rw [h p hp]
/-- How a call ended well. -/
structure Done (S S' : DS) (T : Fo) (a : Nat) (X : List UInt8) (R : Fo) : Prop where
  lf : LF S' T a X X.length R
  dead : S'.dead = false
  room : S'.room = S.room
  left : S.left < 0 → S'.left = S.left
  rest : ∀ p ∈ R, S'.fl p.2 = S.fl p.2
  tmp : ∀ p ∈ T, S'.fl p.2 = S.fl p.2
/-- Behind the file that was being made: the new one is made, synced, renamed. -/
theorem rep2_any {S : DS} {a : Nat} {B X : List UInt8} {k : Nat} {R : Fo} {g : Nat} (h : LF S [] a B k R) (hd : S.dead = false) (hsp : (usd S.fl S.now : Int) + X.length ≤ S.room) (hga : g ≠ a) (hgR : ∀ p ∈ R, p.2 ≠ g) {N : Nat} (hN : X.length ≤ N) :
    ((rep2 S X g).1 = 0 ∧ Done S (rep2 S X g).2 [] g X R) ∨
    ((rep2 S X g).1 = 10 ∧ 0 ≤ S.left ∧ Died (rep2 S X g).2 (fun C => ∃ m, k ≤ m ∧ m ≤ B.length ∧ C = B.take m) (fun C => C = X) S.room R S.fl N (R.length + 3)) := by
  obtain ⟨now, sure, steps, fa, ka, rn, tt⟩ := h
  obtain ⟨room, N0, U, st, l0, dd, fl⟩ := S
  simp only at now sure steps fa ka rn tt hd hsp
  subst now sure steps hd
  simp only [List.nil_append] at hsp ⊢
  have hrt : lk ((logN, a) :: R) tmpN = none := by rw [lk_cons, if_neg log_ne]; exact lk_rest fun p hp => (rn p hp).2.1
  have hrl : lk R logN = none := lk_rest fun p hp => (rn p hp).1
  have hold : ∀ m, k ≤ m → m ≤ B.length → ∃ n, k ≤ n ∧ n ≤ B.length ∧ B.take m = B.take n := fun m h1 h2 => ⟨m, h1, h2, rfl⟩
  -- the new file is made
  rcases ap_step ⟨room, (logN, a) :: R, (logN, a) :: R, [], l0, false, fl⟩ rfl tmpN X g nameD_tmp with ⟨e1, e2, hl⟩ | ⟨l1, hl1, ⟨hs, _, _⟩ | ⟨_, hk, e1, e2⟩ | ⟨t, _, hk, _, _⟩⟩
  · right
    unfold rep2
    rw [e1, if_neg (by decide), e2]
    refine ⟨rfl, by simp only at hl ⊢; omega, ?_⟩
    exact LF.died (old := fun C => ∃ m, k ≤ m ∧ m ≤ B.length ∧ C = B.take m) (S := ⟨room, (logN, a) :: R, (logN, a) :: R, [], l0, false, fl⟩) (S' := ⟨room, (logN, a) :: R, (logN, a) :: R, [], l0, true, fl⟩) (T := []) (L := R.length + 3) ⟨rfl, rfl, rfl, fa, ka, rn, .inl rfl⟩ rfl rfl rfl rfl rfl (fun p hp => by cases hp) hold (by simp)
  · simp only at hs hsp; omega
  · unfold rep2
    rw [e1, if_pos rfl, e2]
    simp only [List.nil_append]
    have f1 : updF fl g (X, 0) a = (B, k) := by rw [updF_other _ _ (fun e => hga e.symm)]; exact fa
    have f2 : ∀ p ∈ R, updF fl g (X, 0) p.2 = fl p.2 := fun p hp => updF_other _ _ (hgR p hp)
    -- what a crash leaves while it is being made
    have hmid : ∀ (S' : DS) (n : Nat), S'.room = room → S'.sure = (logN, a) :: R → S'.steps = [⟨0, g, tmpN, []⟩] → (∀ p ∈ R, S'.fl p.2 = fl p.2) → S'.fl a = (B, k) → S'.fl g = (X, n) → n ≤ X.length →
        Died S' (fun C => ∃ m, k ≤ m ∧ m ≤ B.length ∧ C = B.take m) (fun C => C = X) room R fl N (R.length + 3) := by
      intro S' n g1 g2 g3 g4 g5 g6 g7
      refine ⟨by rw [g2, g3]; simp, fun ks => ?_⟩
      have hR : ∀ p ∈ R, p.1 ≠ logN ∧ p.1 ≠ tmpN ∧ p.2 ≠ a ∧ (S'.fl p.2).2 = (S'.fl p.2).1.length := fun p hp => by rw [g4 p hp]; exact rn p hp
      by_cases hp0 : (kpN ks 0).tmod 2 = 0
      · obtain ⟨m, m1, m2, m3, m4, m5, m6, m7, m8⟩ := crash_LF S' ks [] a R (by rw [g2, g3]; simp [crF, hp0]) (by rw [g5]; exact ka) hR (.inl rfl)
        rw [g5] at m1 m2 m3
        refine ⟨[], a, B.take m, ?_, .inl ⟨m, m1, m2, rfl⟩, fun p hp => by rw [m4 p hp, g4 p hp], fun p hp => (by cases hp), m6, m7, by rw [m8, g1]⟩
        rw [show (B.take m).length = m by rw [List.length_take]; simp only at m2; omega]; exact m3
      · obtain ⟨m, m1, m2, m3, m4, m5, m6, m7, m8⟩ := crash_LF S' ks [(tmpN, g)] a R (by rw [g2, g3]; simp [crF, hp0, doF, hrt, pt, dl_absent hrt]) (by rw [g5]; exact ka) hR (.inr ⟨g, rfl, hga, hgR, by rw [g6]; exact g7⟩)
        rw [g5] at m1 m2 m3
        refine ⟨[(tmpN, g)], a, B.take m, ?_, .inl ⟨m, m1, m2, rfl⟩, fun p hp => by rw [m4 p hp, g4 p hp], fun p hp => ?_, m6, m7, by rw [m8, g1]⟩
        · rw [show (B.take m).length = m by rw [List.length_take]; simp only at m2; omega]; exact m3
        · have := m5 p hp
          rw [List.mem_singleton] at hp; subst hp
          rw [g6] at this; simp only at this ⊢; omega
    have hl0 : ∀ l' : Int, (l0 < 0 → l' = l0) → l' = 0 → 0 ≤ l0 := fun l' h1 h2 => by
      by_cases h : l0 < 0
      · have := h1 h; omega
      · omega
    -- it is synced
    rcases sy_step ⟨room, (tmpN, g) :: (logN, a) :: R, (logN, a) :: R, [⟨0, g, tmpN, []⟩], l1, false, updF fl g (X, 0)⟩ rfl tmpN g (by rw [lk_cons, if_pos rfl]) with ⟨e3, e4, hl⟩ | ⟨l2, hl2, e3, e4⟩
    · right
      unfold rep3
      rw [e3, if_neg (by decide), e4]
      exact ⟨rfl, hl0 l1 hl1 hl, hmid _ 0 rfl rfl rfl f2 f1 (updF_same _ _ _) (Nat.zero_le _)⟩
    · unfold rep3
      rw [e3, if_pos rfl, e4]
      simp only [updF_same] at hl2 ⊢
      have f3 : updF (updF fl g (X, 0)) g (X, X.length) a = (B, k) := by rw [updF_other _ _ (fun e => hga e.symm)]; exact f1
      have f4 : ∀ p ∈ R, updF (updF fl g (X, 0)) g (X, X.length) p.2 = fl p.2 := fun p hp => by rw [updF_other _ _ (hgR p hp)]; exact f2 p hp
      have f5 : updF (updF fl g (X, 0)) g (X, X.length) g = (X, X.length) := updF_same _ _ _
      generalize updF (updF fl g (X, 0)) g (X, X.length) = fl2 at *
      have hl2' : l0 < 0 → l2 = l0 := fun h => (hl2 (by rw [hl1 h]; exact h)).trans (hl1 h)
      -- it is renamed
      rcases rn_step ⟨room, (tmpN, g) :: (logN, a) :: R, (logN, a) :: R, [⟨0, g, tmpN, []⟩], l2, false, fl2⟩ rfl tmpN logN g (by rw [lk_cons, if_pos rfl]) nameD_log with ⟨e5, e6, hl⟩ | ⟨l3, hl3, e5, e6⟩
      · right
        unfold rep4
        rw [e5, if_neg (by decide), e6]
        exact ⟨rfl, hl0 l2 hl2' hl, hmid _ X.length rfl rfl rfl f4 f3 f5 (Nat.le_refl _)⟩
      · unfold rep4
        rw [e5, if_pos rfl, e6]
        have hnow : pt (dl ((tmpN, g) :: (logN, a) :: R) tmpN) logN g = (logN, g) :: R := by
          rw [dl_head _ _ _ hrt]; unfold pt; rw [dl_head _ _ _ hrl]
        simp only [hnow, List.cons_append, List.nil_append] at hl3 ⊢
        have hl3' : l0 < 0 → l3 = l0 := fun h => by rw [hl3 (by rw [hl2' h]; exact h), hl2' h]
        have rn2 : ∀ p ∈ R, p.1 ≠ logN ∧ p.1 ≠ tmpN ∧ p.2 ≠ g ∧ (fl2 p.2).2 = (fl2 p.2).1.length := fun p hp => by
          obtain ⟨r1, r2, r3, r4⟩ := rn p hp
          exact ⟨r1, r2, hgR p hp, by rw [f4 p hp]; exact r4⟩
        -- the folder is settled
        rcases se_step ⟨room, (logN, g) :: R, (logN, a) :: R, [⟨0, g, tmpN, []⟩, ⟨1, g, tmpN, logN⟩], l3, false, fl2⟩ rfl with ⟨e7, e8, hl⟩ | ⟨l4, hl4, e7, e8⟩
        · right
          unfold rep5
          rw [e7, e8]
          refine ⟨rfl, hl0 l3 hl3' hl, ⟨by simp, fun ks => ?_⟩⟩
          have hR : ∀ p ∈ R, p.1 ≠ logN ∧ p.1 ≠ tmpN ∧ p.2 ≠ a ∧ (fl2 p.2).2 = (fl2 p.2).1.length := fun p hp => by rw [f4 p hp]; exact rn p hp
          by_cases hp0 : (kpN ks 0).tmod 2 = 0
          · have hF : crF ks 0 [⟨0, g, tmpN, []⟩, ⟨1, g, tmpN, logN⟩] ((logN, a) :: R) = [] ++ (logN, a) :: R := by
              simp [crF, hp0, doF, hrt]
            obtain ⟨m, m1, m2, m3, m4, m5, m6, m7, m8⟩ := crash_LF ⟨room, (logN, g) :: R, (logN, a) :: R, [⟨0, g, tmpN, []⟩, ⟨1, g, tmpN, logN⟩], l3, true, fl2⟩ ks [] a R hF (by simp only [f3]; exact ka) hR (.inl rfl)
            simp only [f3] at m1 m2 m3
            refine ⟨[], a, B.take m, ?_, .inl ⟨m, m1, m2, rfl⟩, fun p hp => by rw [m4 p hp]; exact f4 p hp, fun p hp => (by cases hp), m6, m7, m8⟩
            rw [show (B.take m).length = m by rw [List.length_take]; omega]; exact m3
          · by_cases hp1 : (kpN ks 1).tmod 2 = 0
            · have hF : crF ks 0 [⟨0, g, tmpN, []⟩, ⟨1, g, tmpN, logN⟩] ((logN, a) :: R) = [(tmpN, g)] ++ (logN, a) :: R := by
                simp [crF, hp0, hp1, doF, hrt, pt, dl_absent hrt]
              obtain ⟨m, m1, m2, m3, m4, m5, m6, m7, m8⟩ := crash_LF ⟨room, (logN, g) :: R, (logN, a) :: R, [⟨0, g, tmpN, []⟩, ⟨1, g, tmpN, logN⟩], l3, true, fl2⟩ ks [(tmpN, g)] a R hF (by simp only [f3]; exact ka) hR (.inr ⟨g, rfl, hga, hgR, by simp only [f5]; exact Nat.le_refl _⟩)
              simp only [f3] at m1 m2 m3
              refine ⟨[(tmpN, g)], a, B.take m, ?_, .inl ⟨m, m1, m2, rfl⟩, fun p hp => by rw [m4 p hp]; exact f4 p hp, fun p hp => ?_, m6, m7, m8⟩
              · rw [show (B.take m).length = m by rw [List.length_take]; omega]; exact m3
              · have := m5 p hp
                rw [List.mem_singleton] at hp; subst hp
                simp only [f5] at this
                exact Nat.le_trans this hN
            · have hF : crF ks 0 [⟨0, g, tmpN, []⟩, ⟨1, g, tmpN, logN⟩] ((logN, a) :: R) = [] ++ (logN, g) :: R := by
                have h1 : lk ((tmpN, g) :: (logN, a) :: R) tmpN = some g := by rw [lk_cons, if_pos rfl]
                simp [crF, hp0, hp1, doF, hrt, pt, dl_absent hrt, h1, dl_head _ _ _ hrt, dl_head _ _ _ hrl]
              obtain ⟨m, m1, m2, m3, m4, m5, m6, m7, m8⟩ := crash_LF ⟨room, (logN, g) :: R, (logN, a) :: R, [⟨0, g, tmpN, []⟩, ⟨1, g, tmpN, logN⟩], l3, true, fl2⟩ ks [] g R hF (by simp only [f5]; exact Nat.le_refl _) rn2 (.inl rfl)
              simp only [f5] at m1 m2 m3
              obtain rfl : m = X.length := by omega
              rw [List.take_length] at m3
              exact ⟨[], g, X, m3, .inr rfl, fun p hp => by rw [m4 p hp]; exact f4 p hp, fun p hp => (by cases hp), m6, m7, m8⟩
        · left
          unfold rep5
          rw [e7, e8]
          refine ⟨rfl, ⟨rfl, rfl, rfl, f5, Nat.le_refl _, rn2, .inl rfl⟩, rfl, rfl, fun h => ?_, f4, fun p hp => by cases hp⟩
          simp only at hl4 h ⊢
          rw [hl4 (by rw [hl3' h]; exact h), hl3' h]
  · simp only at hk; rw [hrt] at hk; cases hk
theorem rep1_any {S : DS} {a : Nat} {B X : List UInt8} {k : Nat} {R : Fo} {g : Nat} (h : LF S [] a B k R) (hd : S.dead = false) (hsp : (usd S.fl S.now : Int) + X.length ≤ S.room) (hga : g ≠ a) (hgR : ∀ p ∈ R, p.2 ≠ g) {N : Nat} (hN : X.length ≤ N) :
    ((rep1 S X g).1 = 0 ∧ Done S (rep1 S X g).2 [] g X R) ∨
    ((rep1 S X g).1 = 10 ∧ 0 ≤ S.left ∧ Died (rep1 S X g).2 (fun C => ∃ m, k ≤ m ∧ m ≤ B.length ∧ C = B.take m) (fun C => C = X) S.room R S.fl N (R.length + 3)) := by
  rcases se_step S hd with ⟨e1, e2, hl⟩ | ⟨l1, hl1, e1, e2⟩
  · right
    unfold rep1
    rw [e1, if_neg (by decide), e2]
    exact ⟨rfl, by omega, LF.died (old := fun C => ∃ m, k ≤ m ∧ m ≤ B.length ∧ C = B.take m) (S := S) (S' := { S with dead := true }) (L := R.length + 3) h rfl rfl rfl rfl rfl (fun p hp => by cases hp) (fun m h1 h2 => ⟨m, h1, h2, rfl⟩) (by simp)⟩
  · have h2 : LF (seS S) [] a B k R := by
      rw [e2]; exact h.same rfl (by show S.now = S.sure; rw [h.now, h.sure]) (by show [] = S.steps; rw [h.steps]) rfl
    unfold rep1
    rw [e1, if_pos rfl]
    have q1 : (seS S).dead = false := by rw [e2]; exact hd
    have q2 : (seS S).room = S.room := by rw [e2]
    have q3 : (seS S).fl = S.fl := by rw [e2]
    have q4 : S.left < 0 → (seS S).left = S.left := by rw [e2]; exact hl1
    have q5 : (seS S).now = S.now := by rw [e2]
    rcases rep2_any h2 q1 (by rw [q2, q3, q5]; exact hsp) hga hgR hN with ⟨r1, r2⟩ | ⟨r1, r2, r3⟩
    · left
      exact ⟨r1, r2.lf, r2.dead, by rw [r2.room, q2], fun h => by rw [r2.left (by rw [q4 h]; exact h), q4 h], fun p hp => by rw [r2.rest p hp, q3], fun p hp => by cases hp⟩
    · right
      refine ⟨r1, ?_, ?_⟩
      · by_cases h : S.left < 0
        · rw [q4 h] at r2; exact r2
        · omega
      · rw [q2, q3] at r3; exact r3
theorem usd_app (fl : Nat → List UInt8 × Nat) (F G : Fo) : usd fl (F ++ G) = usd fl F + usd fl G := by simp [usd]
/-- The log is replaced as a whole, or not at all. -/
theorem rep_any {S : DS} {T : Fo} {a : Nat} {B X : List UInt8} {k : Nat} {R : Fo} {g : Nat} (h : LF S T a B k R) (hd : S.dead = false) (hsp : (usd S.fl S.now : Int) + X.length ≤ S.room) (hga : g ≠ a) (hgR : ∀ p ∈ R, p.2 ≠ g) {N : Nat} (hN : X.length ≤ N) (hT : ∀ p ∈ T, (S.fl p.2).1.length ≤ N) :
    ((repS S X g).1 = 0 ∧ Done S (repS S X g).2 [] g X R) ∨
    ((repS S X g).1 = 10 ∧ 0 ≤ S.left ∧ Died (repS S X g).2 (fun C => ∃ m, k ≤ m ∧ m ≤ B.length ∧ C = B.take m) (fun C => C = X) S.room R S.fl N (R.length + 4)) := by
  have up : ∀ {S' : DS} {old new : List UInt8 → Prop}, Died S' old new S.room R S.fl N (R.length + 3) → Died S' old new S.room R S.fl N (R.length + 4) := fun h => ⟨by have := h.len; omega, h.left⟩
  have hTl : T.length ≤ 1 := by rcases h.tt with rfl | ⟨t, rfl, _⟩ <;> simp
  rcases rm_step S hd tmpN with ⟨e1, e2, hl⟩ | ⟨l1, hl1, ⟨hk, e1, e2⟩ | ⟨t, hk, e1, e2⟩⟩
  · right
    unfold repS
    rw [e1, if_neg (by decide), e2]
    exact ⟨rfl, by omega, LF.died (old := fun C => ∃ m, k ≤ m ∧ m ≤ B.length ∧ C = B.take m) (S := S) (S' := { S with dead := true }) (L := R.length + 4) h rfl rfl rfl rfl rfl hT (fun m h1 h2 => ⟨m, h1, h2, rfl⟩) (by omega)⟩
  · rcases h.tt with rfl | ⟨t, rfl, t1, t2, t3⟩
    · have h2 : LF { S with left := l1 } [] a B k R := h.same rfl rfl rfl rfl
      unfold repS
      rw [e1, if_pos (.inr rfl), e2]
      rcases rep1_any (S := { S with left := l1 }) h2 hd hsp hga hgR hN with ⟨r1, r2⟩ | ⟨r1, r2, r3⟩
      · left
        exact ⟨r1, r2.lf, r2.dead, r2.room, fun h => by rw [r2.left (by show l1 < 0; rw [hl1 h]; exact h)]; exact hl1 h, r2.rest, fun p hp => by cases hp⟩
      · right
        refine ⟨r1, ?_, up r3⟩
        by_cases h : S.left < 0
        · simp only at r2; rw [hl1 h] at r2; exact r2
        · omega
    · rw [h.now, List.singleton_append, lk_cons, if_pos rfl] at hk; cases hk
  · rcases h.tt with rfl | ⟨t', rfl, t1, t2, t3⟩
    · rw [h.now, List.nil_append, h.rtmp] at hk; cases hk
    · rw [h.now, List.singleton_append, lk_cons, if_pos rfl] at hk
      injection hk with hk
      simp only at hk
      subst hk
      have hnow : dl S.now tmpN = (logN, a) :: R := by rw [h.now, List.singleton_append, dl_head _ _ _ h.rtmp]
      unfold repS
      rw [e1, if_pos (.inl rfl), e2, hnow, h.steps, List.nil_append]
      -- the step of the removed file, settled or not
      rcases se_step { S with left := l1, now := (logN, a) :: R, steps := [⟨2, t', tmpN, []⟩] } hd with ⟨e3, e4, hl⟩ | ⟨l2, hl2, e3, e4⟩
      · right
        unfold rep1
        rw [e3, if_neg (by decide), e4]
        refine ⟨rfl, ?_, ⟨?_, fun ks => ?_⟩⟩
        · by_cases h : S.left < 0
          · simp only at hl; have := hl1 h; omega
          · omega
        · simp only [h.sure]; simp
        · have hR := h.rn
          by_cases hp0 : (kpN ks 0).tmod 2 = 0
          · have hF : crF ks 0 [⟨2, t', tmpN, []⟩] S.sure = [(tmpN, t')] ++ (logN, a) :: R := by rw [h.sure]; simp [crF, hp0]
            obtain ⟨m, m1, m2, m3, m4, m5, m6, m7, m8⟩ := crash_LF { S with left := l1, now := (logN, a) :: R, steps := [⟨2, t', tmpN, []⟩], dead := true } ks [(tmpN, t')] a R hF (by simp only [h.fa]; exact h.ka) hR (.inr ⟨t', rfl, t1, t2, by simp only [t3]; exact Nat.le_refl _⟩)
            simp only [h.fa] at m1 m2 m3
            refine ⟨[(tmpN, t')], a, B.take m, ?_, .inl ⟨m, m1, m2, rfl⟩, m4, fun p hp => Nat.le_trans (m5 p hp) (hT p hp), m6, m7, m8⟩
            rw [show (B.take m).length = m by rw [List.length_take]; omega]; exact m3
          · have h1 : lk ((tmpN, t') :: (logN, a) :: R) tmpN = some t' := by rw [lk_cons, if_pos rfl]
            have hF : crF ks 0 [⟨2, t', tmpN, []⟩] S.sure = [] ++ (logN, a) :: R := by rw [h.sure]; simp [crF, hp0, doF, h1, dl_head _ _ _ h.rtmp]
            obtain ⟨m, m1, m2, m3, m4, m5, m6, m7, m8⟩ := crash_LF { S with left := l1, now := (logN, a) :: R, steps := [⟨2, t', tmpN, []⟩], dead := true } ks [] a R hF (by simp only [h.fa]; exact h.ka) hR (.inl rfl)
            simp only [h.fa] at m1 m2 m3
            refine ⟨[], a, B.take m, ?_, .inl ⟨m, m1, m2, rfl⟩, m4, fun p hp => (by cases hp), m6, m7, m8⟩
            rw [show (B.take m).length = m by rw [List.length_take]; omega]; exact m3
      · unfold rep1
        rw [e3, if_pos rfl, e4]
        have h2 : LF { S with left := l2, now := (logN, a) :: R, sure := (logN, a) :: R, steps := [] } [] a B k R := ⟨rfl, rfl, rfl, h.fa, h.ka, h.rn, .inl rfl⟩
        have hsp2 : (usd S.fl ((logN, a) :: R) : Int) + X.length ≤ S.room := by
          rw [h.now, usd_app] at hsp; omega
        have hl2' : S.left < 0 → l2 = S.left := fun h => by rw [hl2 (by show l1 < 0; rw [hl1 h]; exact h)]; exact hl1 h
        rcases rep2_any (S := { S with left := l2, now := (logN, a) :: R, sure := (logN, a) :: R, steps := [] }) h2 hd hsp2 hga hgR hN with ⟨r1, r2⟩ | ⟨r1, r2, r3⟩
        · left
          exact ⟨r1, r2.lf, r2.dead, r2.room, fun h => by rw [r2.left (by show l2 < 0; rw [hl2' h]; exact h)]; exact hl2' h, r2.rest, fun p hp => by cases hp⟩
        · right
          refine ⟨r1, ?_, up r3⟩
          by_cases h : S.left < 0
          · simp only at r2; rw [hl2' h] at r2; exact r2
          · omega
/-- Bytes are added as a whole, or a beginning of them. -/
theorem ext_any {S : DS} {T : Fo} {a : Nat} {B X : List UInt8} {R : Fo} {g : Nat} (h : LF S T a B B.length R) (hd : S.dead = false) (hsp : (usd S.fl S.now : Int) + X.length ≤ S.room) {N : Nat} (hT : ∀ p ∈ T, (S.fl p.2).1.length ≤ N) :
    ((extS S X g).1 = 0 ∧ Done S (extS S X g).2 T a (B ++ X) R) ∨
    ((extS S X g).1 = 10 ∧ 0 ≤ S.left ∧ Died (extS S X g).2 (fun C => ∃ m, B.length ≤ m ∧ m ≤ (B ++ X).length ∧ C = (B ++ X).take m) (fun _ => False) S.room R S.fl N (R.length + 4)) := by
  have hTl : T.length ≤ 1 := by rcases h.tt with rfl | ⟨t, rfl, _⟩ <;> simp
  have hold : ∀ m, B.length ≤ m → m ≤ B.length → ∃ n, B.length ≤ n ∧ n ≤ (B ++ X).length ∧ B.take m = (B ++ X).take n := fun m h1 h2 => ⟨m, h1, by rw [List.length_append]; omega, by rw [List.take_append_of_le_length h2]⟩
  rcases se_step S hd with ⟨e1, e2, hl⟩ | ⟨l1, hl1, e1, e2⟩
  · right
    unfold extS
    rw [e1, if_neg (by decide), e2]
    exact ⟨rfl, by omega, LF.died (old := fun C => ∃ m, B.length ≤ m ∧ m ≤ (B ++ X).length ∧ C = (B ++ X).take m) (S := S) (S' := { S with dead := true }) (L := R.length + 4) h rfl rfl rfl rfl rfl hT hold (by omega)⟩
  · have e2' : seS S = { S with left := l1 } := by
      rw [e2]
      have q1 := h.now
      have q2 := h.sure
      have q3 := h.steps
      cases S
      simp only at q1 q2 q3 ⊢
      rw [q1, q2, q3]
    unfold extS
    rw [e1, if_pos rfl, e2']
    have hla := h.lkl
    have hl0 : ∀ l' : Int, (S.left < 0 → l' = S.left) → l' = 0 → 0 ≤ S.left := fun l' h1 h2 => by
      by_cases h : S.left < 0
      · have := h1 h; omega
      · omega
    rcases ap_step { S with left := l1 } hd logN X g nameD_log with ⟨e3, e4, hl⟩ | ⟨l2, hl2, ⟨hs, _, _⟩ | ⟨_, hk, e3, e4⟩ | ⟨a', _, hk, e3, e4⟩⟩
    · right
      unfold ext1
      rw [e3, if_neg (by decide), e4]
      exact ⟨rfl, hl0 l1 hl1 hl, LF.died (old := fun C => ∃ m, B.length ≤ m ∧ m ≤ (B ++ X).length ∧ C = (B ++ X).take m) (S := S) (S' := { S with left := l1, dead := true }) (L := R.length + 4) h rfl rfl rfl rfl rfl hT hold (by omega)⟩
    · simp only at hs; omega
    · simp only at hk; rw [hla] at hk; cases hk
    · simp only at hk
      rw [hla] at hk
      injection hk with hk
      subst hk
      unfold ext1
      rw [e3, if_pos rfl, e4]
      simp only [h.fa]
      have hl2' : S.left < 0 → l2 = S.left := fun h => by rw [hl2 (by show l1 < 0; rw [hl1 h]; exact h)]; exact hl1 h
      have f2 : ∀ p ∈ R, ∀ v, updF S.fl a v p.2 = S.fl p.2 := fun p hp v => updF_other _ _ (h.rn p hp).2.2.1
      have hne : ∀ t, T = [(tmpN, t)] → t ≠ a := fun t e => by
        rcases h.tt with h0 | ⟨t', e', h1, _⟩
        · rw [h0] at e; cases e
        · rw [e'] at e; simp at e; rw [← e]; exact h1
      have f3 : ∀ p ∈ T, ∀ v, updF S.fl a v p.2 = S.fl p.2 := fun p hp v => by
        rcases h.tt with rfl | ⟨t', rfl, h1, _⟩
        · cases hp
        · rw [List.mem_singleton] at hp; subst hp; exact updF_other _ _ h1
      have mk : ∀ (l : Int) (b : Bool) (n : Nat), n ≤ (B ++ X).length → LF { S with left := l, dead := b, fl := updF S.fl a (B ++ X, n) } T a (B ++ X) n R := fun l b n hn => by
        refine ⟨h.now, h.sure, h.steps, updF_same _ _ _, hn, fun p hp => ?_, ?_⟩
        · obtain ⟨r1, r2, r3, r4⟩ := h.rn p hp
          exact ⟨r1, r2, r3, by simp only [f2 p hp]; exact r4⟩
        · rcases h.tt with rfl | ⟨t', rfl, h1, h2, h3⟩
          · exact .inl rfl
          · exact .inr ⟨t', rfl, h1, h2, by simp only [updF_other _ _ h1]; exact h3⟩
      rcases sy_step { S with left := l2, fl := updF S.fl a (B ++ X, B.length) } hd logN a hla with ⟨e5, e6, hl⟩ | ⟨l3, hl3, e5, e6⟩
      · right
        unfold ext2
        rw [e5, e6]
        refine ⟨rfl, hl0 l2 hl2' hl, ?_⟩
        have hm := mk l2 true B.length (by rw [List.length_append]; omega)
        have := LF.died (old := fun C => ∃ m, B.length ≤ m ∧ m ≤ (B ++ X).length ∧ C = (B ++ X).take m) (new := fun _ => False) (S' := { S with left := l2, dead := true, fl := updF S.fl a (B ++ X, B.length) }) (N := N) (L := R.length + 4) hm rfl rfl rfl rfl rfl (fun p hp => by simp only [f3 p hp]; exact hT p hp) (fun m h1 h2 => ⟨m, h1, h2, rfl⟩) (by omega)
        refine ⟨this.len, fun ks => ?_⟩
        obtain ⟨T', a', B', q1, q2, q3, q4⟩ := this.left ks
        exact ⟨T', a', B', q1, q2, fun p hp => by rw [q3 p hp]; exact f2 p hp _, q4⟩
      · left
        unfold ext2
        rw [e5, e6]
        simp only [updF_same]
        have hu : updF (updF S.fl a (B ++ X, B.length)) a (B ++ X, (B ++ X).length) = updF S.fl a (B ++ X, (B ++ X).length) := by funext j; unfold updF; split <;> rfl
        rw [hu]
        refine ⟨by trivial, ?_, hd, rfl, fun h => ?_, fun p hp => f2 p hp _, fun p hp => f3 p hp _⟩
        · have := mk l3 S.dead (B ++ X).length (Nat.le_refl _); exact this
        · show l3 = S.left
          rw [hl3 (by show l2 < 0; rw [hl2' h]; exact h)]; exact hl2' h
/-- No room: nothing has changed. -/
theorem ext_full {S : DS} {T : Fo} {a : Nat} {B X : List UInt8} {k : Nat} {R : Fo} {g : Nat} (h : LF S T a B k R) (hd : S.dead = false) (hl : S.left < 0) (hsp : S.room < (usd S.fl S.now : Int) + X.length) : (extS S X g).1 = 9 ∧ (extS S X g).2 = S := by
  rcases se_step S hd with ⟨e1, e2, hl'⟩ | ⟨l1, hl1, e1, e2⟩
  · omega
  · have e2' : seS S = S := by
      rw [e2, hl1 hl]
      have q1 := h.now
      have q2 := h.sure
      have q3 := h.steps
      cases S
      simp only at q1 q2 q3 ⊢
      rw [q1, q2, q3]
    unfold extS
    rw [e1, if_pos rfl, e2']
    rcases ap_step S hd logN X g nameD_log with ⟨e3, e4, hl'⟩ | ⟨l2, hl2, ⟨hs, e3, e4⟩ | ⟨hs, hk, e3, e4⟩ | ⟨a', hs, hk, e3, e4⟩⟩
    · omega
    · unfold ext1
      rw [e3, if_neg (by decide), e4, hl2 hl]
      exact ⟨rfl, rfl⟩
    · omega
    · omega
end Go.Proofs.Ytkaikjlklhcnlaa
