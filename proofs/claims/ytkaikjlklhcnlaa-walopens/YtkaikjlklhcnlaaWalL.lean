/- A disk with a log: what replacing it and adding to it make of the disk, wherever it dies (pure). -/
import Derived.Test.YtkaikjlklhcnlaaWalD
namespace Go.Proofs.Ytkaikjlklhcnlaa
set_option linter.unusedVariables false
set_option linter.unusedSimpArgs false

def logN : List UInt8 := [108, 111, 103]
def tmpN : List UInt8 := [108, 111, 103, 46, 110, 101, 119]
theorem tmp_ne : tmpN ≠ logN := by decide
theorem log_ne : logN ≠ tmpN := by decide
theorem nameD_log : nameD logN = true := by decide
theorem nameD_tmp : nameD tmpN = true := by decide

/-- The log's file, in block a, has the bytes B, k of them safe; T: perhaps a file that was being made; R: other files, all safe. -/
structure LF (S : DS) (T : Fo) (a : Nat) (B : List UInt8) (k : Nat) (R : Fo) : Prop where
  now : S.now = T ++ (logN, a) :: R
  sure : S.sure = T ++ (logN, a) :: R
  steps : S.steps = []
  fa : S.fl a = (B, k)
  ka : k ≤ B.length
  rn : ∀ p ∈ R, p.1 ≠ logN ∧ p.1 ≠ tmpN ∧ p.2 ≠ a ∧ (S.fl p.2).2 = (S.fl p.2).1.length
  tt : T = [] ∨ ∃ t, T = [(tmpN, t)] ∧ t ≠ a ∧ (∀ p ∈ R, p.2 ≠ t) ∧ (S.fl t).2 = (S.fl t).1.length
theorem LF.lkl {S : DS} {T : Fo} {a : Nat} {B : List UInt8} {k : Nat} {R : Fo} (h : LF S T a B k R) : lk S.now logN = some a := by
  rw [h.now]
  rcases h.tt with rfl | ⟨t, rfl, _⟩
  · rw [List.nil_append, lk_cons, if_pos rfl]
  · rw [List.singleton_append, lk_cons, if_neg tmp_ne, lk_cons, if_pos rfl]
theorem lk_rest {R : Fo} {x : List UInt8} (h : ∀ p ∈ R, p.1 ≠ x) : lk R x = none := by
  rw [lk_none_iff]
  intro hm
  obtain ⟨p, hp, e⟩ := List.mem_map.1 hm
  exact h p hp e
theorem LF.rtmp {S : DS} {T : Fo} {a : Nat} {B : List UInt8} {k : Nat} {R : Fo} (h : LF S T a B k R) : lk ((logN, a) :: R) tmpN = none := by
  rw [lk_cons, if_neg log_ne]; exact lk_rest fun p hp => (h.rn p hp).2.1
theorem LF.rlog {S : DS} {T : Fo} {a : Nat} {B : List UInt8} {k : Nat} {R : Fo} (h : LF S T a B k R) : lk R logN = none := lk_rest fun p hp => (h.rn p hp).1
theorem dl_head (x : List UInt8) (g : Nat) (F : Fo) (h : lk F x = none) : dl ((x, g) :: F) x = F := by
  have : dl ((x, g) :: F) x = dl F x := by simp [dl]
  rw [this, dl_absent h]
theorem dl_skip (x y : List UInt8) (g : Nat) (F : Fo) (h : y ≠ x) : dl ((y, g) :: F) x = (y, g) :: dl F x := by simp [dl, h]
theorem LF.same {S S' : DS} {T : Fo} {a : Nat} {B : List UInt8} {k : Nat} {R : Fo} (h : LF S T a B k R) (h1 : S'.now = S.now) (h2 : S'.sure = S.sure) (h3 : S'.steps = S.steps) (h4 : S'.fl = S.fl) : LF S' T a B k R :=
  ⟨by rw [h1]; exact h.now, by rw [h2]; exact h.sure, by rw [h3]; exact h.steps, by rw [h4]; exact h.fa, h.ka, by rw [h4]; exact h.rn, by rw [h4]; exact h.tt⟩

/-- What a crash leaves, if these files are left. -/
theorem crash_LF (S : DS) (ks : List Int) (T : Fo) (a : Nat) (R : Fo) (hF : crF ks 0 S.steps S.sure = T ++ (logN, a) :: R) (ha : (S.fl a).2 ≤ (S.fl a).1.length)
    (hR : ∀ p ∈ R, p.1 ≠ logN ∧ p.1 ≠ tmpN ∧ p.2 ≠ a ∧ (S.fl p.2).2 = (S.fl p.2).1.length)
    (hT : T = [] ∨ ∃ t, T = [(tmpN, t)] ∧ t ≠ a ∧ (∀ p ∈ R, p.2 ≠ t) ∧ (S.fl t).2 ≤ (S.fl t).1.length) :
    ∃ m, (S.fl a).2 ≤ m ∧ m ≤ (S.fl a).1.length ∧ LF (crS S ks) T a ((S.fl a).1.take m) m R ∧ (∀ p ∈ R, (crS S ks).fl p.2 = S.fl p.2) ∧ (∀ p ∈ T, ((crS S ks).fl p.2).1.length ≤ (S.fl p.2).1.length) ∧ (crS S ks).dead = false ∧ (crS S ks).left = -1 ∧ (crS S ks).room = S.room := by
  obtain ⟨q1, q2, q3, q4, q5, q6, q7⟩ := cr_facts S ks _ hF
  have hla : lk (T ++ (logN, a) :: R) logN = some a := by
    rcases hT with rfl | ⟨t, rfl, _⟩
    · rw [List.nil_append, lk_cons, if_pos rfl]
    · rw [List.singleton_append, lk_cons, if_neg tmp_ne, lk_cons, if_pos rfl]
  obtain ⟨m, m1, m2, m3⟩ := (q7 a ha).2.2 ⟨logN, hla⟩
  have hRs : ∀ p ∈ R, (crS S ks).fl p.2 = S.fl p.2 := fun p hp => (q7 p.2 (by rw [(hR p hp).2.2.2]; exact Nat.le_refl _)).1 (hR p hp).2.2.2
  refine ⟨m, m1, m2, ⟨q2, q3, q4, m3, by rw [List.length_take]; omega, fun p hp => ?_, ?_⟩, hRs, fun p hp => ?_, q6, q5, q1⟩
  · obtain ⟨r1, r2, r3, r4⟩ := hR p hp
    exact ⟨r1, r2, r3, by rw [hRs p hp]; exact r4⟩
  · rcases hT with rfl | ⟨t, rfl, t1, t2, t3⟩
    · exact .inl rfl
    · refine .inr ⟨t, rfl, t1, t2, ?_⟩
      obtain ⟨n, n1, n2, n3⟩ := (q7 t t3).2.2 ⟨tmpN, by rw [List.singleton_append, lk_cons, if_pos rfl]⟩
      rw [n3]; simp only [List.length_take]; omega
  · rcases hT with rfl | ⟨t, rfl, t1, t2, t3⟩
    · cases hp
    · rw [List.mem_singleton] at hp; subst hp
      exact (q7 t t3).2.1
theorem LF.crash {S : DS} {T : Fo} {a : Nat} {B : List UInt8} {k : Nat} {R : Fo} (h : LF S T a B k R) (ks : List Int) :
    ∃ m, k ≤ m ∧ m ≤ B.length ∧ LF (crS S ks) T a (B.take m) m R ∧ (∀ p ∈ R, (crS S ks).fl p.2 = S.fl p.2) ∧ (∀ p ∈ T, ((crS S ks).fl p.2).1.length ≤ (S.fl p.2).1.length) ∧ (crS S ks).dead = false ∧ (crS S ks).left = -1 ∧ (crS S ks).room = S.room := by
  have h1 := crash_LF S ks T a R (by rw [h.steps, h.sure]; rfl) (by rw [h.fa]; exact h.ka) h.rn (by
    rcases h.tt with e | ⟨t, e, t1, t2, t3⟩
    · exact .inl e
    · exact .inr ⟨t, e, t1, t2, by omega⟩)
  rw [h.fa] at h1
  exact h1

/-- Replacing the log: the error, the disk (g: the new file's block). -/
def rep5 (S : DS) : Int × DS := (seE S, seS S)
def rep4 (S : DS) : Int × DS := if rnE S tmpN logN = 0 then rep5 (rnS S tmpN logN) else (rnE S tmpN logN, rnS S tmpN logN)
def rep3 (S : DS) : Int × DS := if syE S tmpN = 0 then rep4 (syS S tmpN) else (syE S tmpN, syS S tmpN)
def rep2 (S : DS) (X : List UInt8) (g : Nat) : Int × DS := if apE S tmpN X = 0 then rep3 (apS S tmpN X g) else (apE S tmpN X, apS S tmpN X g)
def rep1 (S : DS) (X : List UInt8) (g : Nat) : Int × DS := if seE S = 0 then rep2 (seS S) X g else (seE S, seS S)
def repS (S : DS) (X : List UInt8) (g : Nat) : Int × DS := if syE S tmpN = 0 ∨ syE S tmpN = 7 then rep1 (rmS S tmpN) X g else (syE S tmpN, rmS S tmpN)
/-- Adding to the log. -/
def ext2 (S : DS) : Int × DS := (syE S logN, syS S logN)
def ext1 (S : DS) (X : List UInt8) (g : Nat) : Int × DS := if apE S logN X = 0 then ext2 (apS S logN X g) else (apE S logN X, apS S logN X g)
def extS (S : DS) (X : List UInt8) (g : Nat) : Int × DS := if seE S = 0 then ext1 (seS S) X g else (seE S, seS S)

/-- How a call ended that died: whatever a crash keeps, the log is the old one, cut, or the new one. -/
structure Died (S : DS) (old new : List UInt8 → Prop) (room : Int) (R : Fo) (fl : Nat → List UInt8 × Nat) (N L : Nat) : Prop where
  len : S.sure.length + S.steps.length ≤ L
  left : ∀ ks, ∃ T a B, LF (crS S ks) T a B B.length R ∧ (old B ∨ new B) ∧ (∀ p ∈ R, (crS S ks).fl p.2 = fl p.2) ∧ (∀ p ∈ T, ((crS S ks).fl p.2).1.length ≤ N) ∧ (crS S ks).dead = false ∧ (crS S ks).left = -1 ∧ (crS S ks).room = room
theorem LF.died {S S' : DS} {T : Fo} {a : Nat} {B : List UInt8} {k : Nat} {R : Fo} (h : LF S T a B k R) (h1 : S'.now = S.now) (h2 : S'.sure = S.sure) (h3 : S'.steps = S.steps) (h4 : S'.fl = S.fl) (h5 : S'.room = S.room) {N : Nat} (hN : ∀ p ∈ T, (S.fl p.2).1.length ≤ N) {old new : List UInt8 → Prop} (ho : ∀ m, k ≤ m → m ≤ B.length → old (B.take m)) {L : Nat} (hL : T.length + R.length + 1 ≤ L) :
    Died S' old new S.room R S.fl N L := by
  have h' := h.same h1 h2 h3 h4
  refine ⟨by rw [h'.sure, h'.steps]; simp; omega, fun ks => ?_⟩
  obtain ⟨m, m1, m2, m3, m4, m5, m6, m7, m8⟩ := h'.crash ks
  have el : (B.take m).length = m := by rw [List.length_take]; omega
  exact ⟨T, a, B.take m, by rw [el]; exact m3, .inl (ho m m1 m2), fun p hp => by rw [m4 p hp, h4], fun p hp => Nat.le_trans (m5 p hp) (by rw [h4]; exact hN p hp), m6, m7, by rw [m8, h5]⟩
end Go.Proofs.Ytkaikjlklhcnlaa
