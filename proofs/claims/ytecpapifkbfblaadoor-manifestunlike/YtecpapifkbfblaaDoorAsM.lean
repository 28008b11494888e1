/- Rows of pairs: a text, and what it stands for. -/
import Derived.Test.YtecpapifkbfblaaDoorBase
namespace Go.Proofs.YtecpapifkbfblaaDoor
set_option linter.unusedVariables false
set_option linter.unusedSimpArgs false

abbrev As (α : Type) := List (List UInt8 × α)
variable {α : Type}
def lkA (F : As α) (x : List UInt8) : Option α := (F.find? (fun p => p.1 == x)).map (·.2)
/-- No text stands twice. -/
def KdA (F : As α) : Prop := (F.map (·.1)).Nodup
/-- One more, where the text is new. -/
def adA (F : As α) (x : List UInt8) (a : α) : As α := if (lkA F x).isSome then F else F ++ [(x, a)]

theorem lkA_nil (x : List UInt8) : lkA ([] : As α) x = none := rfl
theorem lkA_cons (p : List UInt8 × α) (F : As α) (x : List UInt8) : lkA (p :: F) x = if p.1 = x then some p.2 else lkA F x := by
  unfold lkA
  by_cases h : p.1 = x
  · simp [h]
  · simp [h, beq_eq_false_iff_ne.2 h]
theorem lkA_none {F : As α} {x : List UInt8} : lkA F x = none ↔ x ∉ F.map (·.1) := by
  induction F with
  | nil => simp [lkA_nil]
  | cons p F ih =>
    rw [lkA_cons]
    by_cases h : p.1 = x
    · simp [h]
    · rw [if_neg h, ih]; simp [Ne.symm h, eq_comm]
theorem lkA_mem {F : As α} {x : List UInt8} {a : α} (h : lkA F x = some a) : (x, a) ∈ F := by
  induction F with
  | nil => cases h
  | cons p F ih =>
    rw [lkA_cons] at h
    by_cases e : p.1 = x
    · rw [if_pos e] at h; cases h; subst e; exact List.mem_cons_self
    · rw [if_neg e] at h; exact List.mem_cons_of_mem _ (ih h)
theorem lkA_of_mem {F : As α} (hk : KdA F) {x : List UInt8} {a : α} (h : (x, a) ∈ F) : lkA F x = some a := by
  induction F with
  | nil => cases h
  | cons p F ih =>
    unfold KdA at hk
    rw [List.map_cons, List.nodup_cons] at hk
    rw [lkA_cons]
    rcases List.mem_cons.1 h with rfl | h
    · rw [if_pos rfl]
    · rw [if_neg (fun e => hk.1 (by rw [e]; exact List.mem_map.2 ⟨_, h, rfl⟩))]; exact ih hk.2 h
theorem lkA_isSome {F : As α} {x : List UInt8} : (lkA F x).isSome = true ↔ x ∈ F.map (·.1) := by
  cases h : lkA F x with
  | none => rw [lkA_none] at h; simp only [Option.isSome_none, Bool.false_eq_true, false_iff]; exact h
  | some a => simp only [Option.isSome_some, true_iff]; exact List.mem_map.2 ⟨_, lkA_mem h, rfl⟩
theorem lkA_app (F G : As α) (x : List UInt8) : lkA (F ++ G) x = (lkA F x).or (lkA G x) := by
  induction F with
  | nil => rfl
  | cons p F ih =>
    rw [List.cons_append, lkA_cons, lkA_cons]
    split
    · rfl
    · exact ih
theorem KdA.nil : KdA ([] : As α) := by simp [KdA]
theorem KdA.snoc {F : As α} (h : KdA F) {x : List UInt8} {a : α} (hx : lkA F x = none) : KdA (F ++ [(x, a)]) := by
  unfold KdA at h ⊢
  rw [List.map_append, List.map_cons, List.map_nil, List.nodup_append]
  refine ⟨h, by simp, fun y hy z hz => ?_⟩
  rw [List.mem_singleton] at hz
  subst hz
  exact fun e => lkA_none.1 hx (by rw [← e]; exact hy)
theorem KdA.ad {F : As α} (h : KdA F) (x : List UInt8) (a : α) : KdA (adA F x a) := by
  unfold adA; split
  · exact h
  · rename_i hn; exact h.snoc (by cases e : lkA F x with | none => rfl | some b => rw [e] at hn; exact absurd rfl hn)
theorem adA_none {F : As α} {x : List UInt8} (h : lkA F x = none) (a : α) : adA F x a = F ++ [(x, a)] := by unfold adA; rw [h]; rfl
theorem adA_some {F : As α} {x : List UInt8} (h : (lkA F x).isSome = true) (a : α) : adA F x a = F := by unfold adA; rw [if_pos h]
theorem lkA_ad (F : As α) (x : List UInt8) (a : α) (y : List UInt8) : lkA (adA F x a) y = (lkA F y).or (if x = y then some a else none) := by
  unfold adA; split
  · rename_i h
    by_cases e : x = y
    · subst e; obtain ⟨b, hb⟩ := Option.isSome_iff_exists.1 h; rw [hb]; rfl
    · rw [if_neg e]; cases lkA F y <;> rfl
  · rw [lkA_app, lkA_cons, lkA_nil]
theorem adA_len (F : As α) (x : List UInt8) (a : α) : (adA F x a).length ≤ F.length + 1 := by
  unfold adA; split
  · omega
  · simp
end Go.Proofs.YtecpapifkbfblaaDoor
