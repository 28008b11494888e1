/- An index as plain data. -/
import Derived.Test.YtecpapifkbfblaaDoorAsM
import Derived.Test.YtecpapifkbfblaaDoorVarM
namespace Go.Proofs.YtecpapifkbfblaaDoor
set_option linter.unusedVariables false
set_option linter.unusedSimpArgs false

/-- What a pack says of a chunk. -/
structure Hd where
  n : List UInt8
  m : Int
  c : Int
  p : Int
  s : Int
  a : Int
/-- Where a chunk stands. -/
structure Pl where
  k : List UInt8
  h : Hd
instance : Inhabited Hd := ⟨⟨[], 0, 0, 0, 0, 0⟩⟩
def plZ : Pl := ⟨[], ⟨[], 0, 0, 0, 0, 0⟩⟩
/-- Packs, by their numbers. -/
def pkA (ps : List (List UInt8)) : As Int := ps.zipIdx.map fun q => (q.1, (q.2 : Int))
theorem pkA_nil : pkA [] = [] := rfl
theorem pkA_snoc (ps : List (List UInt8)) (x : List UInt8) : pkA (ps ++ [x]) = pkA ps ++ [(x, (ps.length : Int))] := by
  unfold pkA; rw [List.zipIdx_append]; simp
theorem pkA_len (ps : List (List UInt8)) : (pkA ps).length = ps.length := by simp [pkA]
theorem pkA_keys (ps : List (List UInt8)) : (pkA ps).map (·.1) = ps := by
  unfold pkA; rw [List.map_map]
  have : ((fun q : List UInt8 × Int => q.1) ∘ fun q : List UInt8 × Nat => (q.1, (q.2 : Int))) = Prod.fst := rfl
  rw [this, List.zipIdx_map_fst]
theorem pkA_mem {ps : List (List UInt8)} {x : List UInt8} : (lkA (pkA ps) x).isSome = true ↔ x ∈ ps := by rw [lkA_isSome, pkA_keys]
theorem pkA_at {ps : List (List UInt8)} {x : List UInt8} {i : Int} (h : lkA (pkA ps) x = some i) : ∃ k : Nat, i = (k : Int) ∧ ps[k]? = some x := by
  have := lkA_mem h
  unfold pkA at this
  obtain ⟨q, hq, e⟩ := List.mem_map.1 this
  have h2 := List.mem_zipIdx_iff_getElem?.1 hq
  injection e with e1 e2
  exact ⟨q.2, e2.symm, by rw [h2, ← e1]⟩
theorem pkA_get {ps : List (List UInt8)} (hn : ps.Nodup) {k : Nat} {x : List UInt8} (h : ps[k]? = some x) : lkA (pkA ps) x = some (k : Int) := by
  apply lkA_of_mem (by unfold KdA; rw [pkA_keys]; exact hn)
  unfold pkA
  exact List.mem_map.2 ⟨(x, k), List.mem_zipIdx_iff_getElem?.2 h, rfl⟩
/-- A pack's name is added. -/
def adP (ps : List (List UInt8)) (x : List UInt8) : List (List UInt8) := if x ∈ ps then ps else ps ++ [x]
theorem adP_in {ps : List (List UInt8)} {x : List UInt8} (h : x ∈ ps) : adP ps x = ps := if_pos h
theorem adP_new {ps : List (List UInt8)} {x : List UInt8} (h : x ∉ ps) : adP ps x = ps ++ [x] := if_neg h
theorem adP_mem (ps : List (List UInt8)) (x : List UInt8) : x ∈ adP ps x := by unfold adP; split; assumption; simp
theorem adP_old {ps : List (List UInt8)} {x y : List UInt8} (h : y ∈ ps) : y ∈ adP ps x := by unfold adP; split; assumption; simp [h]
/-- A pack's chunks are added. -/
def adH (k : List UInt8) (F : As Pl) (hs : List Hd) : As Pl := hs.foldl (fun F h => adA F h.n ⟨k, h⟩) F
theorem adH_nil (k : List UInt8) (F : As Pl) : adH k F [] = F := rfl
theorem adH_snoc (k : List UInt8) (F : As Pl) (hs : List Hd) (h : Hd) : adH k F (hs ++ [h]) = adA (adH k F hs) h.n ⟨k, h⟩ := by simp [adH]
theorem adH_take (k : List UInt8) (F : As Pl) (hs : List Hd) (i : Nat) (hi : i < hs.length) : adH k F (hs.take (i + 1)) = adA (adH k F (hs.take i)) hs[i].n ⟨k, hs[i]⟩ := by
  rw [List.take_add_one, List.getElem?_eq_getElem hi]; exact adH_snoc _ _ _ _
theorem adH_kd {k : List UInt8} {F : As Pl} (h : KdA F) (hs : List Hd) : KdA (adH k F hs) := by
  induction hs generalizing F with
  | nil => exact h
  | cons a l ih => exact ih (h.ad _ _)
theorem adH_len (k : List UInt8) (F : As Pl) (hs : List Hd) : (adH k F hs).length ≤ F.length + hs.length := by
  induction hs generalizing F with
  | nil => exact Nat.le_refl _
  | cons a l ih =>
    have := adA_len F a.n ⟨k, a⟩
    refine Nat.le_trans (ih (adA F a.n ⟨k, a⟩)) ?_
    simp only [List.length_cons]; omega
theorem adH_lk (k : List UInt8) (F : As Pl) (hs : List Hd) (x : List UInt8) : lkA (adH k F hs) x = (lkA F x).or ((hs.find? (fun h => h.n == x)).map (fun h => ⟨k, h⟩)) := by
  induction hs generalizing F with
  | nil => show lkA F x = _; cases lkA F x <;> rfl
  | cons a l ih =>
    show lkA (adH k (adA F a.n ⟨k, a⟩) l) x = _
    rw [ih, lkA_ad]
    by_cases e : a.n = x
    · rw [if_pos e]
      rw [List.find?_cons_of_pos (by simpa using e)]
      cases lkA F x <;> rfl
    · rw [if_neg e, List.find?_cons_of_neg (by simpa using e)]
      cases lkA F x <;> rfl
/-- The names, rising. -/
def nmA {α : Type} (F : As α) : List (List UInt8) := (F.map (·.1)).mergeSort (fun x y => decide (x ≤ y))
theorem nmA_perm {α : Type} (F : As α) : (nmA F).Perm (F.map (·.1)) := List.mergeSort_perm _ _
theorem nmA_len {α : Type} (F : As α) : (nmA F).length = F.length := by rw [(nmA_perm F).length_eq, List.length_map]
theorem nmA_mem {α : Type} {F : As α} {x : List UInt8} : x ∈ nmA F ↔ (lkA F x).isSome = true := by rw [(nmA_perm F).mem_iff, lkA_isSome]
theorem le_tot (x y : List UInt8) : (decide (x ≤ y) || decide (y ≤ x)) = true := by
  have := List.le_total x y
  simpa using this
theorem nmA_sorted {α : Type} (F : As α) : (nmA F).Pairwise (fun x y => decide (x ≤ y) = true) :=
  List.pairwise_mergeSort (fun a b c h1 h2 => by simp only [decide_eq_true_eq] at h1 h2 ⊢; exact List.le_trans h1 h2) le_tot _
theorem sorted_perm_eq {l m : List (List UInt8)} (hl : l.Pairwise (fun x y => decide (x ≤ y) = true)) (hm : m.Pairwise (fun x y => decide (x ≤ y) = true)) (h : l.Perm m) : l = m :=
  List.Perm.eq_of_pairwise (fun a b _ _ h1 h2 => by simp only [decide_eq_true_eq] at h1 h2; exact List.le_antisymm h1 h2) hl hm h
theorem mergeSort_nmA {α : Type} {F : As α} {ss : List (List UInt8)} (h : ss.Perm (F.map (·.1))) : ss.mergeSort (fun x y => decide (x ≤ y)) = nmA F :=
  sorted_perm_eq (List.pairwise_mergeSort (fun a b c h1 h2 => by simp only [decide_eq_true_eq] at h1 h2 ⊢; exact List.le_trans h1 h2) le_tot _) (nmA_sorted F) (((List.mergeSort_perm _ _).trans h).trans (nmA_perm F).symm)
theorem nodup_perm {l m : List (List UInt8)} (hl : l.Nodup) (hm : m.Nodup) (h : ∀ x, x ∈ l ↔ x ∈ m) : l.Perm m := (List.perm_ext_iff_of_nodup hl hm).2 h
theorem nmA_ext {α : Type} {F G : As α} (hF : KdA F) (hG : KdA G) (h : ∀ x, (lkA F x).isSome = (lkA G x).isSome) : nmA F = nmA G :=
  sorted_perm_eq (nmA_sorted F) (nmA_sorted G) (((nmA_perm F).trans (nodup_perm hF hG (fun x => by rw [← lkA_isSome, ← lkA_isSome, h x]))).trans (nmA_perm G).symm)
/-- A number as bytes. -/
def vb (x : Nat) : List UInt8 := (varN x).map UInt8.ofNat
/-- A text behind its length. -/
def txB (x : List UInt8) : List UInt8 := vb x.length ++ x
/-- Of a chunk. -/
def enB (ps : List (List UInt8)) (F : As Pl) (x : List UInt8) : List UInt8 :=
  let p := (lkA F x).getD plZ
  txB x ++ vb ((lkA (pkA ps) p.k).getD 0).toNat ++ vb p.h.m.toNat ++ vb p.h.c.toNat ++ vb p.h.p.toNat ++ vb p.h.s.toNat ++ vb p.h.a.toNat
/-- An index as bytes. -/
def encI (ps : List (List UInt8)) (F : As Pl) : List UInt8 := vb ps.length ++ (ps.map txB).flatten ++ vb F.length ++ ((nmA F).map (enB ps F)).flatten
theorem encI_ext {ps : List (List UInt8)} {F G : As Pl} (hF : KdA F) (hG : KdA G) (h : ∀ x, lkA F x = lkA G x) : encI ps F = encI ps G := by
  have e1 : nmA F = nmA G := nmA_ext hF hG (fun x => by rw [h x])
  have e2 : F.length = G.length := by rw [← nmA_len F, ← nmA_len G, e1]
  unfold encI
  rw [e2, e1]
  congr 2
  refine List.map_congr_left fun x _ => ?_
  unfold enB
  rw [h x]
end Go.Proofs.YtecpapifkbfblaaDoor
