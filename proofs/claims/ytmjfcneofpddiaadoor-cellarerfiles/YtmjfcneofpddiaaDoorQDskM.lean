/- A disk as plain data: what each call makes of it. -/
import Derived.Test.YtmjfcneofpddiaaDoorQKeep
namespace Go.Proofs.YtmjfcneofpddiaaDoor
set_option linter.unusedVariables false
set_option linter.unusedSimpArgs false

/-- A folder: names, each with its file (told by a number). -/
abbrev Fo := List (List UInt8 × Nat)
def lk (F : Fo) (x : List UInt8) : Option Nat := (F.find? (fun p => p.1 == x)).map (·.2)
def dl (F : Fo) (x : List UInt8) : Fo := F.filter (fun p => p.1 != x)
def pt (F : Fo) (x : List UInt8) (g : Nat) : Fo := (x, g) :: dl F x
/-- No name stands twice. -/
def Kd (F : Fo) : Prop := (F.map (·.1)).Nodup

theorem lk_nil (x : List UInt8) : lk [] x = none := rfl
theorem lk_cons (p : List UInt8 × Nat) (F : Fo) (x : List UInt8) : lk (p :: F) x = if p.1 = x then some p.2 else lk F x := by
  unfold lk
  by_cases h : p.1 = x
  · simp [h]
  · simp [h, beq_eq_false_iff_ne.2 h]
theorem lk_dl_same (F : Fo) (x : List UInt8) : lk (dl F x) x = none := by
  induction F with
  | nil => rfl
  | cons p F ih =>
    by_cases h : p.1 = x
    · simpa [dl, h] using ih
    · have : dl (p :: F) x = p :: dl F x := by simp [dl, h]
      rw [this, lk_cons, if_neg h, ih]
theorem lk_dl_other (F : Fo) {x y : List UInt8} (hne : y ≠ x) : lk (dl F x) y = lk F y := by
  induction F with
  | nil => rfl
  | cons p F ih =>
    by_cases h : p.1 = x
    · have : dl (p :: F) x = dl F x := by simp [dl, h]
      rw [this, lk_cons, if_neg (by rw [h]; exact fun e => hne e.symm), ih]
    · have : dl (p :: F) x = p :: dl F x := by simp [dl, h]
      rw [this, lk_cons, lk_cons, ih]
theorem lk_pt_same (F : Fo) (x : List UInt8) (g : Nat) : lk (pt F x g) x = some g := by unfold pt; rw [lk_cons, if_pos rfl]
theorem lk_pt_other (F : Fo) {x y : List UInt8} (g : Nat) (hne : y ≠ x) : lk (pt F x g) y = lk F y := by
  unfold pt; rw [lk_cons, if_neg (fun e => hne e.symm), lk_dl_other F hne]
theorem dl_mem {F : Fo} {x : List UInt8} {p : List UInt8 × Nat} (h : p ∈ dl F x) : p ∈ F ∧ p.1 ≠ x := by
  unfold dl at h; rw [List.mem_filter] at h; exact ⟨h.1, by simpa using h.2⟩
theorem pt_mem {F : Fo} {x : List UInt8} {g : Nat} {p : List UInt8 × Nat} (h : p ∈ pt F x g) : p = (x, g) ∨ p ∈ F := by
  unfold pt at h; rcases List.mem_cons.1 h with h | h
  · exact .inl h
  · exact .inr (dl_mem h).1
theorem Kd.dl {F : Fo} (h : Kd F) (x : List UInt8) : Kd (dl F x) := by
  unfold Kd Go.Proofs.YtmjfcneofpddiaaDoor.dl; exact (List.filter_sublist.map _).nodup h
theorem Kd.pt {F : Fo} (h : Kd F) (x : List UInt8) (g : Nat) : Kd (pt F x g) := by
  unfold Kd Go.Proofs.YtmjfcneofpddiaaDoor.pt
  rw [List.map_cons, List.nodup_cons]
  refine ⟨fun hm => ?_, h.dl x⟩
  obtain ⟨p, hp, e⟩ := List.mem_map.1 hm
  exact (dl_mem hp).2 e
theorem Kd.nil : Kd [] := by simp [Kd]
theorem lk_some_mem {F : Fo} {x : List UInt8} {g : Nat} (h : lk F x = some g) : (x, g) ∈ F := by
  induction F with
  | nil => cases h
  | cons p F ih =>
    rw [lk_cons] at h
    by_cases e : p.1 = x
    · rw [if_pos e] at h; cases h; subst e; exact List.mem_cons_self
    · rw [if_neg e] at h; exact List.mem_cons_of_mem _ (ih h)
theorem lk_of_mem {F : Fo} (hk : Kd F) {x : List UInt8} {g : Nat} (h : (x, g) ∈ F) : lk F x = some g := by
  induction F with
  | nil => cases h
  | cons p F ih =>
    unfold Kd at hk
    rw [List.map_cons, List.nodup_cons] at hk
    rw [lk_cons]
    rcases List.mem_cons.1 h with e | e
    · subst e; rw [if_pos rfl]
    · rw [if_neg (fun e2 => hk.1 (List.mem_map.2 ⟨_, e, e2.symm⟩)), ih hk.2 e]
theorem lk_none_iff {F : Fo} {x : List UInt8} : lk F x = none ↔ x ∉ F.map (·.1) := by
  induction F with
  | nil => simp [lk_nil]
  | cons p F ih =>
    rw [lk_cons]
    by_cases e : p.1 = x
    · simp [e]
    · rw [if_neg e, ih, List.map_cons, List.mem_cons, not_or]
      exact ⟨fun h => ⟨fun e2 => e e2.symm, h⟩, fun h => h.2⟩

/-- A step: 0 made, 1 renamed, 2 removed. -/
structure Stp where
  what : Int
  g : Nat
  nm : List UInt8
  to : List UInt8
instance : Inhabited Stp := ⟨⟨0, 0, [], []⟩⟩
def doF (F : Fo) (s : Stp) : Fo :=
  if s.what = 0 ∧ lk F s.nm = none then pt F s.nm s.g
  else if s.what = 1 ∧ lk F s.nm = some s.g then pt (dl F s.nm) s.to s.g
  else if s.what = 2 ∧ lk F s.nm = some s.g then dl F s.nm else F
theorem doF_Kd {F : Fo} (h : Kd F) (s : Stp) : Kd (doF F s) := by
  unfold doF
  split
  · exact h.pt _ _
  · split
    · exact (h.dl _).pt _ _
    · split
      · exact h.dl _
      · exact h
theorem doF_mem {F : Fo} {s : Stp} {p : List UInt8 × Nat} (h : p ∈ doF F s) : p ∈ F ∨ p.2 = s.g ∧ (p.1 = s.nm ∨ p.1 = s.to) := by
  unfold doF at h
  split at h
  · rcases pt_mem h with e | e
    · subst e; exact .inr ⟨rfl, .inl rfl⟩
    · exact .inl e
  · split at h
    · rcases pt_mem h with e | e
      · subst e; exact .inr ⟨rfl, .inr rfl⟩
      · exact .inl (dl_mem e).1
    · split at h
      · exact .inl (dl_mem h).1
      · exact .inl h
theorem dl_len (F : Fo) (x : List UInt8) : (dl F x).length ≤ F.length := List.length_filter_le _ _
theorem doF_len (F : Fo) (s : Stp) : (doF F s).length ≤ F.length + 1 := by
  unfold doF
  split
  · unfold pt; have := dl_len F s.nm; simp; omega
  · split
    · unfold pt; have := dl_len (dl F s.nm) s.to; have := dl_len F s.nm; simp; omega
    · split
      · have := dl_len F s.nm; omega
      · omega

/-- A disk. -/
structure DS where
  room : Int
  now : Fo
  sure : Fo
  steps : List Stp
  left : Int
  dead : Bool
  fl : Nat → List UInt8 × Nat

def usd (fl : Nat → List UInt8 × Nat) (F : Fo) : Nat := (F.map fun p => (fl p.2).1.length).sum
def updF (fl : Nat → List UInt8 × Nat) (g : Nat) (v : List UInt8 × Nat) : Nat → List UInt8 × Nat := fun k => if k = g then v else fl k
theorem updF_same (fl : Nat → List UInt8 × Nat) (g : Nat) (v : List UInt8 × Nat) : updF fl g v g = v := by simp [updF]
theorem updF_other (fl : Nat → List UInt8 × Nat) {g k : Nat} (v : List UInt8 × Nat) (h : k ≠ g) : updF fl g v k = fl k := by simp [updF, h]
/-- May a file be called so? -/
def nameD (x : List UInt8) : Bool := decide (1 ≤ x.length ∧ x.length ≤ 80) && x.all fun c => decide (32 < c.toNat ∧ c.toNat < 127 ∧ c.toNat ≠ 47)
theorem nameD_len {x : List UInt8} (h : nameD x = true) : x.length ≤ 80 := by
  unfold nameD at h; simp at h; omega

def dieS (S : DS) : DS := if S.left = 0 then { S with dead := true } else if 0 < S.left then { S with left := S.left - 1 } else S
def newS (room : Int) : DS := ⟨room, [], [], [], -1, false, fun _ => ([], 0)⟩
def takeS (S : DS) (s : Stp) : DS := { S with now := doF S.now s, steps := S.steps ++ [s] }
def settS (S : DS) : DS := { S with sure := S.now, steps := [] }
/-- Append: the error, the disk (g: a new file's number). -/
def apE (S : DS) (x data : List UInt8) : Int :=
  if (dieS S).dead = true then 10 else if nameD x = false then 11 else if S.room < (usd S.fl S.now : Int) + data.length then 9 else 0
def apS (S : DS) (x data : List UInt8) (g : Nat) : DS :=
  if apE S x data = 0 then
    match lk S.now x with
    | some h => { dieS S with fl := updF S.fl h ((S.fl h).1 ++ data, (S.fl h).2) }
    | none => { takeS (dieS S) ⟨0, g, x, []⟩ with fl := updF S.fl g (data, 0) }
  else dieS S
def syE (S : DS) (x : List UInt8) : Int := if (dieS S).dead = true then 10 else if lk S.now x = none then 7 else 0
def syS (S : DS) (x : List UInt8) : DS :=
  if (dieS S).dead = true then dieS S else
  match lk S.now x with
  | some h => { dieS S with fl := updF S.fl h ((S.fl h).1, (S.fl h).1.length) }
  | none => dieS S
def rnE (S : DS) (x y : List UInt8) : Int := if (dieS S).dead = true then 10 else if lk S.now x = none then 7 else if nameD y = false then 11 else 0
def rnS (S : DS) (x y : List UInt8) : DS :=
  if rnE S x y = 0 then
    match lk S.now x with
    | some h => takeS (dieS S) ⟨1, h, x, y⟩
    | none => dieS S
  else dieS S
def rmS (S : DS) (x : List UInt8) : DS :=
  if syE S x = 0 then
    match lk S.now x with
    | some h => takeS (dieS S) ⟨2, h, x, []⟩
    | none => dieS S
  else dieS S
def seE (S : DS) : Int := if (dieS S).dead = true then 10 else 0
def seS (S : DS) : DS := if (dieS S).dead = true then dieS S else settS (dieS S)
def rdE (S : DS) (x : List UInt8) : Int := if S.dead = true then 10 else if lk S.now x = none then 7 else 0
def rdV (S : DS) (x : List UInt8) : List UInt8 := if S.dead = true then [] else match lk S.now x with | some h => (S.fl h).1 | none => []
def leU : List UInt8 → List UInt8 → Bool := fun x y => decide (x ≤ y)
def nms (F : Fo) : List (List UInt8) := (F.map (·.1)).mergeSort leU
def spE (S : DS) (x : List UInt8) (k : Int) : Int :=
  match lk S.now x with | none => 7 | some h => if k < 0 ∨ (S.fl h).1.length ≤ k then 1 else 0
def spS (S : DS) (x : List UInt8) (k : Int) (c : UInt8) : DS :=
  if spE S x k = 0 then match lk S.now x with | none => S | some h => { S with fl := updF S.fl h ((S.fl h).1.set k.toNat c, (S.fl h).2) } else S
/-- The number of keeps at a place. -/
def kpN (ks : List Int) (i : Nat) : Int := if ks.length = 0 then 0 else ks.getD (i % ks.length) 0
/-- A file that is cut. -/
def cutF (f : List UInt8 × Nat) (n : Int) : List UInt8 × Nat :=
  let m : Nat := f.2 + ((n.tmod (f.1.length - f.2 + 1 : Nat) + (f.1.length - f.2 + 1 : Nat)).tmod (f.1.length - f.2 + 1 : Nat)).toNat
  (f.1.take m, m)
def crF (ks : List Int) : Nat → List Stp → Fo → Fo
  | _, [], F => F
  | i, s :: l, F => crF ks (i + 1) l (if (kpN ks i).tmod 2 = 0 then F else doF F s)
def crC (ks : List Int) (F : Fo) : Nat → List (List UInt8) → (Nat → List UInt8 × Nat) → (Nat → List UInt8 × Nat)
  | _, [], fl => fl
  | j, x :: l, fl => crC ks F (j + 1) l (match lk F x with | some g => updF fl g (cutF (fl g) (kpN ks j)) | none => fl)
def crS (S : DS) (ks : List Int) : DS :=
  let F := crF ks 0 S.steps S.sure
  { room := S.room, now := F, sure := F, steps := [], left := -1, dead := false, fl := crC ks F S.steps.length (nms F) S.fl }
end Go.Proofs.YtmjfcneofpddiaaDoor
