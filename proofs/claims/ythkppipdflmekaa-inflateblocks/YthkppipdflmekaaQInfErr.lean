/- Contract of the document's Sizes. What is refused is refused by an error that isn't nought: the plain mathematics. -/
import Derived.Test.YthkppipdflmekaaQRFix
import Derived.BigQuiet
import Derived.Test.YthkppipdflmekaaQInfE
namespace Go.Proofs.Ythkppipdflmekaa
open Go.RowKit
set_option linter.unusedVariables false

def rzA : List Nat := [3, 4, 5, 6, 7, 8, 9, 10, 11, 13, 15, 17, 19, 23, 27, 31, 35, 43, 51, 59, 67, 83, 99, 115, 131, 163, 195, 227, 258]
def rzB : List Nat := [0, 0, 0, 0, 0, 0, 0, 0, 1, 1, 1, 1, 2, 2, 2, 2, 3, 3, 3, 3, 4, 4, 4, 4, 5, 5, 5, 5, 0]
def rzC : List Nat := [1, 2, 3, 4, 5, 7, 9, 13, 17, 25, 33, 49, 65, 97, 129, 193, 257, 385, 513, 769, 1025, 1537, 2049, 3073, 4097, 6145, 8193, 12289, 16385, 24577]
def rzD : List Nat := [0, 0, 0, 0, 1, 1, 2, 2, 3, 3, 4, 4, 5, 5, 6, 6, 7, 7, 8, 8, 9, 9, 10, 10, 11, 11, 12, 12, 13, 13]
theorem rzAB : ∀ i : Fin 29, rzA[i.val]? = some (szF i.val false).1 ∧ rzB[i.val]? = some (szF i.val false).2 := by decide +kernel
theorem rzCD : ∀ i : Fin 30, rzC[i.val]? = some (szF i.val true).1 ∧ rzD[i.val]? = some (szF i.val true).2 := by decide +kernel
set_option maxRecDepth 100000 in
set_option maxHeartbeats 2000000 in
theorem rSizes_any (w : World) : Calls Try.prog 27 #[] w fun e w' => e = .returned (.tuple #[.slice (some ⟨w.heap.size, 0, none⟩) 29 29, .slice (some ⟨w.heap.size + 1, 0, none⟩) 29 29, .slice (some ⟨w.heap.size + 2, 0, none⟩) 30 30, .slice (some ⟨w.heap.size + 3, 0, none⟩) 30 30]) ∧ w' = (((w.alloc (.cells (nc rzA).toArray 3)).alloc (.cells (nc rzB).toArray 3)).alloc (.cells (nc rzC).toArray 3)).alloc (.cells (nc rzD).toArray 3) := by
  go_enter Try.func27, Try.ntmps27
  go_wp2
  exact bodyPost_ret (v := .tuple #[.slice (some ⟨w.heap.size, 0, none⟩) 29 29, .slice (some ⟨w.heap.size + 1, 0, none⟩) 29 29, .slice (some ⟨w.heap.size + 2, 0, none⟩) 30 30, .slice (some ⟨w.heap.size + 3, 0, none⟩) 30 30]) (by simp [results, Try.results27, go_sem]) rfl ⟨rfl, rfl⟩
end Go.Proofs.Ythkppipdflmekaa
namespace Go.Proofs.Ythkppipdflmekaa
open Go.RowKit
set_option linter.unusedVariables false

theorem tkF_no {f : Nat → Bool} {L p n er : Nat} (h : tkF f L p n = .error er) : er ≠ 0 := by
  unfold tkF at h; split at h <;> cases h; decide
theorem nxG_no {ns : List Nat} {f : Nat → Bool} {L p er : Nat} : ∀ k j, nxG ns f L p k j = .error er → er ≠ 0
  | 0, j, h => by rw [nxG] at h; cases h; decide
  | k + 1, j, h => by
    rw [nxG] at h
    split at h
    · cases h; decide
    · split at h
      · cases h
      · split at h
        · exact nxG_no k (j + 1) h
        · cases h; decide
theorem nxF_no {ns : List Nat} {f : Nat → Bool} {L p er : Nat} (h : nxF ns f L p = .error er) : er ≠ 0 := nxG_no _ _ h
theorem szE_no {f : Nat → Bool} {L p i er : Nat} {far : Bool} (h : szE f L p i far = .error er) : er ≠ 0 := by
  unfold szE at h
  split at h
  · cases h; decide
  · split at h
    · rename_i hh; cases h; exact tkF_no hh
    · cases h
theorem tkE_no {ds : List Nat} {f : Nat → Bool} {L most p out sym er : Nat} (h : tkE ds f L most p out sym = .error er) : er ≠ 0 := by
  unfold tkE at h
  split at h
  · split at h <;> cases h; decide
  · split at h
    · rename_i hh; cases h; exact szE_no hh
    · split at h
      · rename_i hh; cases h; exact nxF_no hh
      · split at h
        · rename_i hh; cases h; exact szE_no hh
        · split at h
          · cases h; decide
          · split at h <;> cases h; decide
theorem tksF_no {ls ds : List Nat} {f : Nat → Bool} {L most er : Nat} : ∀ (k p out : Nat) (acc : List Tok), tksF ls ds f L most k p out acc = .error er → er ≠ 0
  | 0, p, out, acc, h => by rw [tksF] at h; cases h; decide
  | k + 1, p, out, acc, h => by
    rw [tksF] at h
    split at h
    · rename_i hh; cases h; exact nxF_no hh
    · split at h
      · cases h
      · split at h
        · rename_i hh; cases h; exact tkE_no hh
        · exact tksF_no k _ _ _ h
theorem stF_no {f : Nat → Bool} {L most p out er : Nat} (h : stF f L most p out = .error er) : er ≠ 0 := by
  unfold stF at h
  split at h
  · rename_i hh; cases h; exact tkF_no hh
  · split at h
    · rename_i hh; cases h; exact tkF_no hh
    · split at h
      · cases h; decide
      · split at h
        · cases h; decide
        · split at h <;> cases h; decide
theorem rowF_no {ns : List Nat} {f : Nat → Bool} {L n er : Nat} : ∀ (k p : Nat) (row : List Nat), rowF ns f L n k p row = .error er → er ≠ 0
  | 0, p, row, h => by rw [rowF] at h; cases h; decide
  | k + 1, p, row, h => by
    rw [rowF] at h
    split at h
    · split at h <;> cases h; decide
    · split at h
      · rename_i hh; cases h; exact nxF_no hh
      · split at h
        · cases h; decide
        · split at h
          · rename_i hh; cases h; exact tkF_no hh
          · exact rowF_no k _ _ h
theorem dynF_no {f : Nat → Bool} {L p er : Nat} (h : dynF f L p = .error er) : er ≠ 0 := by
  unfold dynF at h
  split at h
  · rename_i hh; cases h; exact tkF_no hh
  · split at h
    · rename_i hh; cases h; exact tkF_no hh
    · split at h
      · rename_i hh; cases h; exact tkF_no hh
      · split at h
        · cases h; decide
        · split at h
          · cases h; decide
          · split at h
            · cases h; decide
            · split at h
              · rename_i hh; cases h; exact rowF_no _ _ _ hh
              · split at h
                · cases h; decide
                · split at h <;> cases h; decide
theorem bdF_no {f : Nat → Bool} {L most p out k er : Nat} (h : bdF f L most p out k = .error er) : er ≠ 0 := by
  unfold bdF at h
  split at h
  · split at h
    · rename_i hh; cases h; exact stF_no hh
    · cases h
  · split at h
    · split at h
      · rename_i hh; cases h; exact tksF_no _ _ _ _ hh
      · cases h
    · split at h
      · split at h
        · rename_i hh; cases h; exact dynF_no hh
        · split at h
          · rename_i hh; cases h; exact tksF_no _ _ _ _ hh
          · cases h
      · cases h; decide
theorem blkF_no {f : Nat → Bool} {L most p out er : Nat} (h : blkF f L most p out = .error er) : er ≠ 0 := by
  rw [blk_bd] at h
  split at h
  · rename_i hh; cases h; exact tkF_no hh
  · split at h
    · rename_i hh; cases h; exact tkF_no hh
    · split at h
      · rename_i hh; cases h; exact bdF_no hh
      · cases h
theorem blksF_no {f : Nat → Bool} {L most er : Nat} : ∀ (k p out : Nat) (acc : List Blk), blksF f L most k p out acc = .error er → er ≠ 0
  | 0, p, out, acc, h => by rw [blksF] at h; cases h; decide
  | k + 1, p, out, acc, h => by
    rw [blksF] at h
    split at h
    · rename_i hh; cases h; exact blkF_no hh
    · split at h
      · cases h
      · exact blksF_no k _ _ _ h
end Go.Proofs.Ythkppipdflmekaa
