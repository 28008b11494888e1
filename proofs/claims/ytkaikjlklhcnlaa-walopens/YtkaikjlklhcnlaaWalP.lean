/- A new log on a disk; what the laws' disks have (pure). -/
import Derived.Test.YtkaikjlklhcnlaaWalR
import Derived.Test.YtkaikjlklhcnlaaWalM
namespace Go.Proofs.Ytkaikjlklhcnlaa
set_option linter.unusedVariables false
set_option linter.unusedSimpArgs false

def othN : List UInt8 := [111, 116, 104, 101, 114]
theorem log_oth : logN ≠ othN := by decide
theorem tmp_oth : tmpN ≠ othN := by decide
def othD : List UInt8 := [115, 111, 109, 101, 116, 104, 105, 110, 103]
theorem dieS_live' {S : DS} (h : S.left < 0) : dieS S = S := by unfold dieS; rw [if_neg (by omega), if_neg (by omega)]
theorem fresh_rep {S : DS} {R : Fo} {g : Nat} (hn : S.now = R) (hd : S.dead = false) (hl : S.left < 0) (hR : ∀ p ∈ R, p.1 ≠ logN ∧ p.1 ≠ tmpN ∧ p.2 ≠ g ∧ (S.fl p.2).2 = (S.fl p.2).1.length) (hsp : (usd S.fl R : Int) ≤ S.room) :
    (repS S [] g).1 = 0 ∧ Done S (repS S [] g).2 [] g [] R := by
  have hRt : lk R tmpN = none := lk_rest fun p hp => (hR p hp).2.1
  have hRl : lk R logN = none := lk_rest fun p hp => (hR p hp).1
  obtain ⟨room, now, sure, steps, left, dead, fl⟩ := S
  simp only at hn hd hl hR hsp
  subst hn hd
  rcases rm_step ⟨room, now, sure, steps, left, false, fl⟩ rfl tmpN with ⟨_, _, h⟩ | ⟨l1, h1, ⟨_, e1, e2⟩ | ⟨t, ht, _⟩⟩
  · simp only at h; omega
  rotate_left
  · simp only at ht; rw [hRt] at ht; cases ht
  simp only at h1
  rw [h1 hl] at e2
  unfold repS
  rw [e1, if_pos (.inr rfl), e2]
  rcases se_step ⟨room, now, sure, steps, left, false, fl⟩ rfl with ⟨_, _, h⟩ | ⟨l2, h2, e3, e4⟩
  · simp only at h; omega
  simp only at h2
  rw [h2 hl] at e4
  unfold rep1
  rw [e3, if_pos rfl, e4]
  simp only
  rcases ap_step ⟨room, now, now, [], left, false, fl⟩ rfl tmpN [] g nameD_tmp with ⟨_, _, h⟩ | ⟨l3, h3, ⟨hs, _, _⟩ | ⟨_, hk, e5, e6⟩ | ⟨t, _, hk, _, _⟩⟩
  · simp only at h; omega
  · simp at hs; omega
  rotate_left
  · simp only at hk; rw [hRt] at hk; cases hk
  simp only at h3
  rw [h3 hl] at e6
  unfold rep2
  rw [e5, if_pos rfl, e6]
  simp only [List.nil_append]
  rcases sy_step ⟨room, (tmpN, g) :: now, now, [⟨0, g, tmpN, []⟩], left, false, updF fl g ([], 0)⟩ rfl tmpN g (by rw [lk_cons, if_pos rfl]) with ⟨_, _, h⟩ | ⟨l4, h4, e7, e8⟩
  · simp only at h; omega
  simp only at h4
  rw [h4 hl] at e8
  unfold rep3
  rw [e7, if_pos rfl, e8]
  simp only [updF_same]
  have f1 : updF (updF fl g ([], 0)) g ([], ([] : List UInt8).length) g = ([], 0) := updF_same _ _ _
  have f2 : ∀ p ∈ now, updF (updF fl g ([], 0)) g ([], ([] : List UInt8).length) p.2 = fl p.2 := fun p hp => by
    rw [updF_other _ _ (hR p hp).2.2.1, updF_other _ _ (hR p hp).2.2.1]
  generalize updF (updF fl g ([], 0)) g ([], ([] : List UInt8).length) = fl2 at *
  rcases rn_step ⟨room, (tmpN, g) :: now, now, [⟨0, g, tmpN, []⟩], left, false, fl2⟩ rfl tmpN logN g (by rw [lk_cons, if_pos rfl]) nameD_log with ⟨_, _, h⟩ | ⟨l5, h5, e9, e10⟩
  · simp only at h; omega
  simp only at h5
  rw [h5 hl] at e10
  unfold rep4
  rw [e9, if_pos rfl, e10]
  have hnow : pt (dl ((tmpN, g) :: now) tmpN) logN g = (logN, g) :: now := by
    rw [dl_head _ _ _ hRt]; unfold pt; rw [dl_absent hRl]
  simp only [hnow]
  rcases se_step ⟨room, (logN, g) :: now, now, [⟨0, g, tmpN, []⟩] ++ [⟨1, g, tmpN, logN⟩], left, false, fl2⟩ rfl with ⟨_, _, h⟩ | ⟨l6, h6, e11, e12⟩
  · simp only at h; omega
  simp only at h6
  rw [h6 hl] at e12
  unfold rep5
  rw [e11, e12]
  refine ⟨rfl, ⟨rfl, rfl, rfl, f1, Nat.le_refl _, fun p hp => ?_, .inl rfl⟩, rfl, rfl, fun _ => rfl, f2, fun p hp => by cases hp⟩
  obtain ⟨r1, r2, r3, r4⟩ := hR p hp
  exact ⟨r1, r2, r3, by simp only [f2 p hp]; exact r4⟩
/-- A disk of the laws: a log with the bytes B, all safe; another file; perhaps one that was being made. -/
structure LW (S : DS) (T : Fo) (a : Nat) (B : List UInt8) (o : Nat) (room : Int) (N : Nat) : Prop where
  lf : LF S T a B B.length [(othN, o)]
  oth : S.fl o = (othD, 9)
  dead : S.dead = false
  left : S.left = -1
  room : S.room = room
  tmp : ∀ p ∈ T, (S.fl p.2).1.length ≤ N
theorem LW.lko {S : DS} {T : Fo} {a : Nat} {B : List UInt8} {o : Nat} {room : Int} {N : Nat} (h : LW S T a B o room N) : lk S.now othN = some o := by
  rw [h.lf.now]
  rcases h.lf.tt with rfl | ⟨t, rfl, _⟩
  · rw [List.nil_append, lk_cons, if_neg log_oth, lk_cons, if_pos rfl]
  · rw [List.singleton_append, lk_cons, if_neg tmp_oth, lk_cons, if_neg log_oth, lk_cons, if_pos rfl]
theorem LW.len {S : DS} {T : Fo} {a : Nat} {B : List UInt8} {o : Nat} {room : Int} {N : Nat} (h : LW S T a B o room N) : 2 ≤ S.now.length ∧ S.now.length ≤ 3 ∧ S.steps.length = 0 ∧ S.sure.length ≤ 3 := by
  rw [h.lf.now, h.lf.sure, h.lf.steps]
  rcases h.lf.tt with rfl | ⟨t, rfl, _⟩ <;> simp
theorem LW.rd {S : DS} {T : Fo} {a : Nat} {B : List UInt8} {o : Nat} {room : Int} {N : Nat} (h : LW S T a B o room N) : rdE S logN = 0 ∧ rdV S logN = B := by
  unfold rdE rdV
  rw [h.dead, h.lf.lkl, if_neg (by decide), if_neg (by simp), if_neg (by decide)]
  exact ⟨rfl, by simp only [h.lf.fa]⟩
theorem LW.rdo {S : DS} {T : Fo} {a : Nat} {B : List UInt8} {o : Nat} {room : Int} {N : Nat} (h : LW S T a B o room N) : rdE S othN = 0 ∧ rdV S othN = othD := by
  unfold rdE rdV
  rw [h.dead, h.lko, if_neg (by decide), if_neg (by simp), if_neg (by decide)]
  exact ⟨rfl, by simp only [h.oth]⟩
theorem LW.used {S : DS} {T : Fo} {a : Nat} {B : List UInt8} {o : Nat} {room : Int} {N : Nat} (h : LW S T a B o room N) : usd S.fl S.now ≤ N + B.length + 9 := by
  rw [h.lf.now, usd_app, usd_cons, usd_cons]
  simp only [h.lf.fa, h.oth]
  have : usd S.fl T ≤ N := by
    rcases h.lf.tt with rfl | ⟨t, rfl, _⟩
    · simp [usd]
    · rw [usd_cons]; have := h.tmp _ List.mem_cons_self; simp [usd]; exact this
  have h2 : usd S.fl [] = 0 := rfl
  have h3 : othD.length = 9 := rfl
  omega
theorem LW.usedT {S : DS} {a : Nat} {B : List UInt8} {o : Nat} {room : Int} {N : Nat} (h : LW S [] a B o room N) : usd S.fl S.now = B.length + 9 := by
  rw [h.lf.now, usd_app, usd_cons, usd_cons]
  simp only [h.lf.fa, h.oth]
  simp [usd, othD]
theorem LW.fresh {S : DS} {T : Fo} {a : Nat} {B : List UInt8} {o : Nat} {room : Int} {N : Nat} (h : LW S T a B o room N) {w : World} {d : Nat} {K : Nat → Prop} {gs : List Nat} (hd : DK w d S K gs) {g : Nat} (hg : g ∉ gs) : g ≠ a ∧ ∀ p ∈ [(othN, o)], p.2 ≠ g := by
  obtain ⟨_, _, _, _, hd⟩ := hd
  refine ⟨fun e => hg ?_, fun p hp e => hg ?_⟩
  · rw [e]; exact (hd.inN _ (lk_some_mem h.lf.lkl)).1
  · rw [List.mem_singleton] at hp; subst hp
    rw [← e]; exact (hd.inN _ (lk_some_mem h.lko)).1
/-- The laws' first disk, ahead of its log. -/
structure St2 (S : DS) (o : Nat) (room : Int) : Prop where
  now : S.now = [(othN, o)]
  steps : S.steps.length ≤ 3
  dead : S.dead = false
  left : S.left = -1
  room : S.room = room
  oth : S.fl o = (othD, 9)
theorem start1 {room : Int} (hr : 9 ≤ room) (o : Nat) : apE (newS room) othN othD = 0 ∧ syE (apS (newS room) othN othD o) othN = 0 ∧ St2 (syS (apS (newS room) othN othD o) othN) o room := by
  have e1 : apE (newS room) othN othD = 0 := by
    unfold apE; rw [dieS_live' (show (-1 : Int) < 0 by decide), if_neg (show ¬ (newS room).dead = true from fun h => by cases h), if_neg (by decide), if_neg (by show ¬ room < _; simp [usd, newS, othD]; omega)]
  have e2 : apS (newS room) othN othD o = ⟨room, [(othN, o)], [], [⟨0, o, othN, []⟩], -1, false, updF (fun _ => ([], 0)) o (othD, 0)⟩ := by
    unfold apS; rw [if_pos e1, dieS_live' (show (-1 : Int) < 0 by decide)]
    simp [newS, lk_nil, takeS, doF, pt, dl]
  have hk : lk [(othN, o)] othN = some o := by rw [lk_cons, if_pos rfl]
  refine ⟨e1, ?_, ?_⟩
  · rw [e2]
    unfold syE; rw [dieS_live' (show (-1 : Int) < 0 by decide), if_neg (show ¬ false = true by decide)]
    simp only [hk]; rw [if_neg (by simp)]
  · have e4 : syS ⟨room, [(othN, o)], [], [⟨0, o, othN, []⟩], -1, false, updF (fun _ => ([], 0)) o (othD, 0)⟩ othN = ⟨room, [(othN, o)], [], [⟨0, o, othN, []⟩], -1, false, updF (updF (fun _ => ([], 0)) o (othD, 0)) o (othD, 9)⟩ := by
      unfold syS; rw [dieS_live' (show (-1 : Int) < 0 by decide), if_neg (show ¬ false = true by decide)]
      simp only [hk, updF_same]; rfl
    rw [e2, e4]
    exact ⟨rfl, by simp, rfl, rfl, rfl, updF_same _ _ _⟩
theorem St2.fmt {S : DS} {o : Nat} {room : Int} (h : St2 S o room) (hr : 9 ≤ room) {g : Nat} (hog : o ≠ g) : (repS S [] g).1 = 0 ∧ LW (repS S [] g).2 [] g [] o room 0 := by
  obtain ⟨e5, e6⟩ := fresh_rep (S := S) (R := [(othN, o)]) (g := g) h.now h.dead (by rw [h.left]; decide) (fun p hp => by
    rw [List.mem_singleton] at hp; subst hp
    exact ⟨log_oth.symm, tmp_oth.symm, hog, by simp only [h.oth]; rfl⟩) (by rw [usd_cons, h.room]; simp only [h.oth]; simp [usd, othD]; omega)
  refine ⟨e5, ⟨e6.lf, ?_, e6.dead, ?_, by rw [e6.room, h.room], fun p hp => by cases hp⟩⟩
  · rw [e6.rest _ List.mem_cons_self]; exact h.oth
  · rw [e6.left (by rw [h.left]; decide), h.left]
end Go.Proofs.Ytkaikjlklhcnlaa
