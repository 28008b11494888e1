/- Contracts: a disk's Spoil; the law's Few, Do. -/
import Derived.Test.YtgpfbahmkbdjmabOpsR
import Derived.Test.YtgpfbahmkbdjmabDskT
import Derived.Deep.RegionHeld3
namespace Go.Proofs.Ytgpfbahmkbdjmab
open Go.RowKit Go.Maps
set_option linter.unusedVariables false
set_option linter.unusedSimpArgs false

theorem ext_mkT (x : List UInt8) (n : Nat) : (mkT x).extract 0 n = mkT (x.take n) := by
  apply ByteArray.ext
  rw [ByteArray.data_extract]
  simp [mkT]
set_option maxRecDepth 100000 in
set_option maxHeartbeats 400000 in
theorem few60 (x : List UInt8) (w : World) (hx : x.length ≤ 9223372036854775807) :
    Calls Try.prog 19 #[.string (mkT x), .int .i64 60] w fun e w' => e = .returned (.string (mkT (x.take 60))) ∧ w' = w := by
  have hsz := mkT_size x
  have hms : ((mkT x).size : Int) = (x.length : Int) := by rw [hsz]
  have HSZ : Hid ((mkT x).size = x.length) := hsz
  clear hsz
  by_cases h : 60 < x.length
  · have hi : (60 : Int) < (x.length : Int) := by omega
    have hi2 : (60 : Int) ≤ (x.length : Int) := by omega
    have HE : Hid ((mkT x).extract 0 60 = mkT (x.take 60)) := ext_mkT x 60
    have h3 : 60 < (mkT x).size := by rw [HSZ.out]; exact h
    have h4 : 60 ≤ (mkT x).size := by omega
    have h5 : (60 : Int) ≤ ((mkT x).size : Int) := by omega
    clear hms
    go_enter Try.func19, Try.ntmps19
    go_wp2
    go_ret
    rw [← HE.out]
    exact ⟨rfl, rfl⟩
  · have hi : ¬ (60 : Int) < (x.length : Int) := by omega
    have HE : Hid (mkT (x.take 60) = mkT x) := by unfold Hid; rw [List.take_of_length_le (by omega)]
    go_enter Try.func19, Try.ntmps19
    go_wp2
    go_ret
    rw [HE.out]
    exact ⟨rfl, rfl⟩
theorem own_set {w : World} {r n cap k : Nat} {l : List UInt8} {c : UInt8} (h : w.ownsRow 0 5 1 (.slice (some ⟨r, 0, none⟩) n cap) n (cb l)) (hk : k < l.length) :
    (w.setCell ⟨r, k, none⟩ (.int .u8 (c.toNat : Int))).ownsRow 0 5 1 (.slice (some ⟨r, 0, none⟩) n cap) n (cb (l.set k c)) ∧ w.frozen? ⟨r, k, none⟩ = false ∧ ∃ v, w.cell? ⟨r, k, none⟩ = some v := by
  obtain ⟨h1, h2⟩ := h
  rcases h2 with ⟨h2, _⟩ | ⟨g, cap', cur, h3, h4, h5, h6, h7, h8, h9⟩
  · cases h2
  · injection h3 with e1 e2 e3
    cases e1
    subst e3
    have hl : l.length = n := by rw [cb_len] at h1; omega
    have hks : k < cur.size := by omega
    refine ⟨⟨by rw [cb_len, List.length_set]; rw [cb_len] at h1; exact h1, .inr ⟨r, cap, _, rfl, Nat.zero_le _, setc h5, h6, h7, by rw [Array.size_setIfInBounds]; exact h8, ?_⟩⟩, frozen_of_row _ _ _ _ _ h5, ⟨cur[k], ?_⟩⟩
    · rw [Array.toList_setIfInBounds, List.take_set, h9]
      simp [cb, List.map_set]
    · rw [cell_of_row _ _ _ _ _ _ h5]; simp [hks]
theorem DKc.spoiled {w : World} {d : Nat} {S : DS} {K : Nat → Prop} {bn bs : Nat} {sv : Value} {gs : List Nat} {fv : Nat → Value} (h : DKc w d S K bn bs sv gs fv) {g : Nat} (hg : g ∈ gs) {r cap k : Nat} (hf : fv g = .slice (some ⟨r, 0, none⟩) (S.fl g).1.length cap) (hk : k < (S.fl g).1.length) (c : UInt8) :
    DK (w.setCell ⟨r, k, none⟩ (.int .u8 (c.toNat : Int))) d { S with fl := updF S.fl g ((S.fl g).1.set k c, (S.fl g).2) } K gs ∧ Keeps K w (w.setCell ⟨r, k, none⟩ (.int .u8 (c.toNat : Int))) := by
  have F := h.file g hg
  have hrow := F.row
  rw [hf] at hrow
  obtain ⟨q1, _, _⟩ := own_set (c := c) hrow hk
  have hob : (fv g).ownBlock = some r := by rw [hf]; rfl
  have hgr : g ≠ r := fun e => F.ne_row (by rw [hob, e])
  refine ⟨⟨bn, bs, sv, updV fv g (fv g), h.setFile hg ((S.fl g).1.set k c, (S.fl g).2) (fv g) (by simp [World.setCell]) (fun j hj h1 h2 => setc_o (fun e => h2 (by rw [hob, e]))) ((setc_o hgr).trans F.cell) ?_ (fun r hr => .inl hr) ?_ ?_⟩, (Keeps.refl _ _).setCell (F.kr r hob) _⟩
  · show World.ownsRow _ _ _ _ _ ((S.fl g).1.set k c).length _
    rw [List.length_set, hf]; exact q1
  · show (S.fl g).2 ≤ ((S.fl g).1.set k c).length
    rw [List.length_set]; exact F.safe
  · show ((S.fl g).1.set k c).length ≤ _
    rw [List.length_set]; exact F.big
set_option maxRecDepth 100000 in
set_option maxHeartbeats 2000000 in
theorem spoil_any {d : Nat} {S : DS} {K : Nat → Prop} {gs : List Nat} (x : List UInt8) (k : Int) (c : UInt8) (w : World) (h : DK w d S K gs) (hx : x.length ≤ 9223372036854775807) (hk0 : -9223372036854775808 ≤ k) (hk1 : k ≤ 9223372036854775807) :
    Calls Try.prog 20 #[.pointer (some ⟨d, 0, none⟩), .string (mkT x), .int .i64 k, .int .u8 (c.toNat : Int)] w fun e w' => e = .returned (.int .i64 (spE S x k)) ∧ DK w' d (spS S x k c) K gs ∧ Keeps K w w' := by
  obtain ⟨bn, bs, sv, fv, hc1⟩ := h
  obtain ⟨_, c1, _, _, _, _⟩ := hc1.cells
  have hlook := hc1.now.look x (by omega)
  have HC1 : Hid (DKc w d S K bn bs sv gs fv) := hc1
  clear hc1
  cases hl : lk S.now x with
  | none =>
    rw [hl] at hlook
    simp only [gV, Option.isSome_none] at hlook
    have HE : Hid (spE S x k = 7 ∧ spS S x k c = S) := by
      have e : spE S x k = 7 := by unfold spE; rw [hl]
      exact ⟨e, by unfold spS; rw [e, if_neg (by decide)]⟩
    clear hl
    go_enter Try.func20, Try.ntmps20
    go_wp2
    go_ret
    rw [HE.out.1, HE.out.2]
    exact ⟨rfl, ⟨_, _, _, _, HC1.out⟩, Keeps.refl _ _⟩
  | some g =>
    rw [hl] at hlook
    simp only [gV, Option.isSome_some] at hlook
    have hgs : g ∈ gs := (HC1.out.inN (x, g) (lk_some_mem hl)).1
    have F := HC1.out.file g hgs
    obtain ⟨f0, _, _, _⟩ := F.fcell
    obtain ⟨fa, fc, hfv, hfc⟩ := own_form F.row
    rw [hfv] at f0
    by_cases hb : k < 0 ∨ (S.fl g).1.length ≤ k
    · have HE : Hid (spE S x k = 1 ∧ spS S x k c = S) := by
        have e : spE S x k = 1 := by unfold spE; rw [hl]; simp only; rw [if_pos hb]
        exact ⟨e, by unfold spS; rw [e, if_neg (by decide)]⟩
      clear hl
      by_cases h0 : k < 0
      · go_enter Try.func20, Try.ntmps20
        go_wp2
        go_ret
        rw [HE.out.1, HE.out.2]
        exact ⟨rfl, ⟨_, _, _, _, HC1.out⟩, Keeps.refl _ _⟩
      · have h2 : ((S.fl g).1.length : Int) ≤ k := by omega
        clear hb
        go_enter Try.func20, Try.ntmps20
        go_wp2
        go_ret
        rw [HE.out.1, HE.out.2]
        exact ⟨rfl, ⟨_, _, _, _, HC1.out⟩, Keeps.refl _ _⟩
    · obtain ⟨j, rfl⟩ := Int.eq_ofNat_of_zero_le (show 0 ≤ k by omega)
      have hj : j < (S.fl g).1.length := by omega
      have HE : Hid (spE S x (j : Int) = 0 ∧ spS S x (j : Int) c = { S with fl := updF S.fl g ((S.fl g).1.set j c, (S.fl g).2) }) := by
        have e : spE S x (j : Int) = 0 := by unfold spE; rw [hl]; simp only; rw [if_neg hb]
        exact ⟨e, by unfold spS; rw [e, if_pos rfl, hl]; rfl⟩
      have hrow := F.row
      obtain ⟨r, cap, hsl, _, _⟩ := hrow.form (by omega)
      obtain ⟨rfl, rfl⟩ : fa = some ⟨r, 0, none⟩ ∧ fc = cap := by rw [hfv] at hsl; injection hsl with e1 e2 e3; exact ⟨e1, e3⟩
      rw [hfv] at hrow
      obtain ⟨_, hfz, v0, hcl⟩ := own_set (c := c) hrow hj
      have HSP : Hid _ := HC1.out.spoiled hgs hfv hj c
      have hj0 : ¬ (j : Int) < 0 := by omega
      have hj1 : ¬ ((S.fl g).1.length : Int) ≤ (j : Int) := by omega
      have hj2 : (j : Int) < ((S.fl g).1.length : Int) := by omega
      have hj3 : (0 : Int) ≤ (j : Int) := by omega
      clear hl hb F hrow hfv hsl
      go_enter Try.func20, Try.ntmps20
      go_wp2
      go_ret
      rw [HE.out.1, HE.out.2]
      exact ⟨rfl, HSP.out.1, HSP.out.2⟩
end Go.Proofs.Ytgpfbahmkbdjmab
