/- What is asked of insertionSortCmpFunc holds; slices.SortStableFunc. -/
import Derived.Test.YtclmjopppaknjaaHStb
import Derived.Sort.LotA
import Derived.Sort.Lot0
namespace Go.Proofs.Ytclmjopppaknjaa
open Go.RowKit Go.Shelf Go.Lib Go.Sort
set_option linter.unusedVariables false
set_option linter.unusedSimpArgs false

theorem ris1_enters (args : Array Value) (w : World) : (callFunc 49 args).run Try.prog w = .ok (.enter 49 args) w := enters_of Try.func49 (by kernel_rfl) rfl args w
theorem cmpReads_any (zs : List Int) [Inhabited (Fin zs.length)] (bx g o cap blk off size : Nat) (w : World) (hbx : w.cell? ⟨bx, 0, none⟩ = some (.slice (some ⟨g, o, none⟩) zs.length cap))
    (hc : ∀ i, i < zs.length → w.cell? ⟨g, o + i, none⟩ = some (.int .i64 (zs.getD i 0))) (h1 : bx ≠ blk) (h2 : g ≠ blk) (hb1 : bx < w.heap.size) (hb2 : g < w.heap.size) :
    CmpReads Try.prog 49 #[.pointer (some ⟨bx, 0, none⟩)] eF (cfZ zs) blk off size w := by
  intro m os dk hs x y
  have hcell : ∀ (b j : Nat) (v : Value), b ≠ blk → b < w.heap.size → w.cell? ⟨b, j, none⟩ = some v → (sortWorld eF w blk off m dk os).cell? ⟨b, j, none⟩ = some v := by
    intro b j v hne hlt h
    unfold sortWorld
    rw [cell?_grow _ _ _ (by rw [size_putRow]; exact hlt), cell?_putRow_other _ _ _ _ _ _ (.inl hne)]
    exact h
  exact ris1_any x.val y.val bx g o zs.length cap _ _ _ (hcell _ _ _ h1 hb1 hbx) x.isLt y.isLt (hcell _ _ _ h2 hb2 (hc _ x.isLt)) (hcell _ _ _ h2 hb2 (hc _ y.isLt))
theorem eF_one {N : Nat} : OneCell (eF (N := N)) := fun x => rfl
theorem insAt_any (zs : List Int) [Inhabited (Fin zs.length)] (bx g o capz blk off cap : Nat) (d : Array (Fin zs.length)) (w : World) (hbx : w.cell? ⟨bx, 0, none⟩ = some (.slice (some ⟨g, o, none⟩) zs.length capz))
    (hc : ∀ i, i < zs.length → w.cell? ⟨g, o + i, none⟩ = some (.int .i64 (zs.getD i 0))) (h1 : bx ≠ blk) (h2 : g ≠ blk) (hb1 : bx < w.heap.size) (hb2 : g < w.heap.size) (hH : Holds eF w blk off d) (hsz : d.size ≤ 1000000) :
    InsAt (.pointer (some ⟨bx, 0, none⟩)) (cfZ zs) blk off cap d.size w := by
  intro dk n a b hk hab hb
  have hH' : Holds eF ((putRow eF w blk off dk).drewN n) blk off dk := holds_putRow eF w blk off d dk hH hk
  have hcr := cmpReads_any zs bx g o capz blk off dk.size ((putRow eF w blk off dk).drewN n)
    (by rw [World.cell?_drewN, cell?_putRow_other _ _ _ _ _ _ (.inl h1)]; exact hbx) (fun i hi => by rw [World.cell?_drewN, cell?_putRow_other _ _ _ _ _ _ (.inl h2)]; exact hc i hi) h1 h2
    (by rw [World.heap_drewN, size_putRow]; exact hb1) (by rw [World.heap_drewN, size_putRow]; exact hb2)
  have hI := Any.insertionSortCmpFunc_one Try.insF eF eF_one (cfZ zs) 49 #[.pointer (some ⟨bx, 0, none⟩)] blk off cap a b dk _ ris1_enters hcr hH' hab (by omega) (by omega)
  obtain ⟨p1, p2⟩ := insertionSort_holds (lt := ltOf (cfZ zs)) (swoZ zs) dk a b hab (by omega)
  rw [hk] at hI
  refine Calls.mono (show Calls Try.prog 76 _ _ _ from hI) ?_
  rintro e w' ⟨rfl, m, rfl⟩
  exact ⟨rfl, _, p1, p2, n + m, by rw [putRow_again _ _ _ _ _ _ _ p1.1]⟩
theorem syms_any (zs : List Int) [Inhabited (Fin zs.length)] (bx g o capz blk off cap : Nat) (d : Array (Fin zs.length)) (w : World) (hbx : w.cell? ⟨bx, 0, none⟩ = some (.slice (some ⟨g, o, none⟩) zs.length capz))
    (hc : ∀ i, i < zs.length → w.cell? ⟨g, o + i, none⟩ = some (.int .i64 (zs.getD i 0))) (h1 : bx ≠ blk) (h2 : g ≠ blk) (hH : Holds eF w blk off d) (hsz : d.size ≤ 1000000) :
    SymsAt (.pointer (some ⟨bx, 0, none⟩)) (cfZ zs) blk off cap d.size w := fun a m b q1 q2 q3 =>
  sym_all _ _ (swoZ zs) blk off cap d.size (by omega) (b - a) a m b (Nat.le_refl _) q1 q2 q3 w d hH rfl (cmpF_any zs bx g o capz blk off d.size w hbx hc h1 h2)
set_option maxRecDepth 100000 in
set_option maxHeartbeats 1000000 in
theorem sortStable_any (zs : List Int) [Inhabited (Fin zs.length)] (bx g o capz blk off cap : Nat) (d : Array (Fin zs.length)) (w : World) (hbx : w.cell? ⟨bx, 0, none⟩ = some (.slice (some ⟨g, o, none⟩) zs.length capz))
    (hc : ∀ i, i < zs.length → w.cell? ⟨g, o + i, none⟩ = some (.int .i64 (zs.getD i 0))) (h1 : bx ≠ blk) (h2 : g ≠ blk) (hb1 : bx < w.heap.size) (hb2 : g < w.heap.size) (hH : Holds eF w blk off d) (hsz : d.size ≤ 1000000) :
    Calls Try.prog 48 #[.slice (some ⟨blk, off, none⟩) d.size cap, .func (.func 49) #[] #[.pointer (some ⟨bx, 0, none⟩)]] w fun e w' =>
      e = .returned (.tuple #[]) ∧ ∃ d', PermIn 0 d.size d d' ∧ SortedIn (ltOf (cfZ zs)) 0 d.size d' ∧ ∃ n, w' = (putRow eF w blk off d').drewN n := by
  have HS : Hid _ := stable_any (.pointer (some ⟨bx, 0, none⟩)) (cfZ zs) (swoZ zs) blk off cap d w hH hsz (insAt_any zs bx g o capz blk off cap d w hbx hc h1 h2 hb1 hb2 hH hsz) (syms_any zs bx g o capz blk off cap d w hbx hc h1 h2 hH hsz)
  clear hbx hc hH
  go_enter Try.func48, Try.ntmps48
  go_wp2_with fail
  refine (Hid.out HS : Calls _ _ _ _ _).mono ?_
  rintro e w1 ⟨rfl, d', q1, q2, k1, rfl⟩
  go_wp2
  exact bodyPost_end (results_none rfl _ _ _) rfl ⟨rfl, d', q1, q2, k1, rfl⟩
end Go.Proofs.Ytclmjopppaknjaa
