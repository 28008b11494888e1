/- Contracts: a disk's Used, Arm, New. -/
import Derived.Test.YtmjfcneofpddiaaDoorQDskA
namespace Go.Proofs.YtmjfcneofpddiaaDoor
open Go.RowKit Go.Maps
set_option linter.unusedVariables false
set_option linter.unusedSimpArgs false

/-- The step of a range over a folder. -/
theorem wpList_next_FM (w : World) {ops : Array Oper} {rest : List Oper} {o : Oper} {a : Act} {Q : Exit → Act → World → Prop} (hg : o.guard = none) (it : Operand) (hop : o.op = Op.next it false) (b r n : Nat) (F : Fo) (D : DataW Unit)
    (hD : ∀ x, D.atKey (.string x) (gD none) = gD (lk F x)) (hH : ∀ x, Maps.has D (.string x) = (lk F x).isSome) (left : Lit → Bool) (cnt : Nat)
    (hit : a.eval it = .pointer (some ⟨r, 0, none⟩)) (h : w.ranges Tryd.prog 9 ptrElem b r n D left cnt)
    (hDone : cnt = 0 → (∀ kl, left kl = false) → wpList Tryd.prog ops Q rest (a.put o.dst (.tuple #[.bool false])) w)
    (hMore : ∀ (x : List UInt8) (g : Nat) (w' : World) (cnt' : Nat), lk F x = some g → left (.string x) = true → (∀ zd, D.atKey (.string x) zd = gD (some g)) → w'.ranges Tryd.prog 9 ptrElem b r n D (fun z => left z && !z.sameKey (.string x)) cnt' → cnt' < cnt →
      w.grownBy w' (some r) → w'.heap.size = w.heap.size → (Instr.entry (.pointer (some ⟨r, 0, none⟩))).run Tryd.prog w' = .ok (.tuple #[.string (mkT x), .pointer (some ⟨g, 0, none⟩)]) w' → wpList Tryd.prog ops Q rest (a.put o.dst (.tuple #[.bool true, .string (mkT x), .pointer (some ⟨g, 0, none⟩)])) w') :
    wpList Tryd.prog ops Q (o :: rest) a w := by
  refine wpList_next_ranges w hg it hop 9 keyS ptrElem encStr gV (fun key kl hk => by obtain ⟨x, hx, _⟩ := Maps.keyOf_str Tryd.underlying9 hk; exact ⟨x, hx⟩) (fun v y hv => by obtain ⟨c, hc, _⟩ := ptrElem_some hv; exact ⟨c, hc⟩) b r n D left cnt hit h hDone ?_
  intro x c kl y w' cnt' hkey hlk hv hat hrg hlt hgr hsz hen
  obtain ⟨x', ex, rfl, _⟩ := Maps.keyOf_str Tryd.underlying9 hkey
  obtain rfl : x = x' := encStr_inj ex
  have hhas : Maps.has D (.string x) = true := has_true_of_atKey hat
  rw [hH x] at hhas
  obtain ⟨g, hg'⟩ := Option.isSome_iff_exists.1 hhas
  have h1 := hat (gD none)
  rw [hD x, hg'] at h1
  obtain ⟨c', hc', hy⟩ := ptrElem_some hv
  have h2 : gD (some g) = gD c' := by rw [h1, hy]
  have h3 : c = c' := by cases c <;> cases c' <;> simp [gV] at hc' ⊢; exact hc'
  rw [← gD_inj h2] at h3
  subst h3
  exact hMore x g w' cnt' hg' hlk (fun zd => by rw [hat zd, ← h1]) hrg hlt hgr hsz hen

def lenX (fl : Nat → List UInt8 × Nat) (F : Fo) (x : List UInt8) : Nat := match lk F x with | some g => (fl g).1.length | none => 0
theorem lenX_some {fl : Nat → List UInt8 × Nat} {F : Fo} {x : List UInt8} {g : Nat} (h : lk F x = some g) : lenX fl F x = (fl g).1.length := by unfold lenX; rw [h]
theorem usd_perm {fl : Nat → List UInt8 × Nat} {F : Fo} {ss : List (List UInt8)} (hk : Kd F) (h : ss.Perm (F.map (·.1))) : (ss.map (lenX fl F)).sum = usd fl F := by
  rw [(h.map (lenX fl F)).sum_nat, List.map_map]
  unfold usd
  congr 1
  refine List.map_congr_left fun p hp => ?_
  show lenX fl F p.1 = _
  rw [lenX_some (lk_of_mem hk (show (p.1, p.2) ∈ F from hp))]
theorem sum_le {ss : List (List UInt8)} {f : List UInt8 → Nat} {N : Nat} (h : ∀ x, f x ≤ N) : (ss.map f).sum ≤ ss.length * N := by
  induction ss with
  | nil => simp
  | cons a l ih => simp only [List.map_cons, List.sum_cons, List.length_cons]; have := h a; rw [Nat.succ_mul]; omega
theorem own_form {w : World} {base : Nat} {e : TypeId} {s n : Nat} {v : Value} {xs : List Value} (h : w.ownsRow base e s v n xs) : ∃ a cap, v = .slice a n cap ∧ n ≤ cap := by
  rcases h.2 with ⟨rfl, rfl⟩ | ⟨g, cap, cur, rfl, _, _, h5, _⟩
  · exact ⟨none, 0, rfl, Nat.le_refl _⟩
  · exact ⟨_, cap, rfl, h5⟩
theorem nodup_le {α : Type} [BEq α] [LawfulBEq α] : ∀ {l m : List α}, l.Nodup → (∀ x ∈ l, x ∈ m) → l.length ≤ m.length
  | [], _, _, _ => Nat.zero_le _
  | a :: l, m, hn, hs => by
    rw [List.nodup_cons] at hn
    have h1 : ∀ x ∈ l, x ∈ m.erase a := fun x hx => (List.mem_erase_of_ne (fun e => hn.1 (by rw [← e]; exact hx))).2 (hs x (List.mem_cons_of_mem _ hx))
    have h2 := nodup_le hn.2 h1
    have h3 := List.length_erase_of_mem (hs a List.mem_cons_self)
    have h4 : 0 < m.length := List.length_pos_of_mem (hs a List.mem_cons_self)
    simp only [List.length_cons]; omega
theorem Collected.le {w : World} {b n : Nat} {F : Fo} {D : DataW Unit} {left : Lit → Bool} {ss : List (List UInt8)} (h : Collected D left ss) (hk : Kd F) (hh : ∀ x, Maps.has D (.string x) = (lk F x).isSome) : ss.length ≤ F.length := by
  have h1 : ∀ x ∈ ss, x ∈ F.map (·.1) := fun x hx => by
    have := ((h.2 x).1 hx).1
    rw [hh x] at this
    obtain ⟨g, hg⟩ := Option.isSome_iff_exists.1 this
    exact List.mem_map.2 ⟨_, lk_some_mem hg, rfl⟩
  have := nodup_le h.1 h1
  rw [List.length_map] at this
  exact this
set_option maxRecDepth 100000 in
set_option maxHeartbeats 2000000 in
theorem used_any {d : Nat} {S : DS} {K : Nat → Prop} {gs : List Nat} (w : World) (h : DK w d S K gs) (hlen : S.now.length ≤ 1000000) :
    Calls Tryd.prog 24 #[.pointer (some ⟨d, 0, none⟩)] w fun e w' => e = .returned (.int .i64 (usd S.fl S.now : Int)) ∧ Below w.heap.size w w' := by
  obtain ⟨bn, bs, sv, fv, h⟩ := h
  obtain ⟨c0, c1, c2, c3, c4, c5⟩ := h.cells
  have HF : Hid (∀ x g, lk S.now x = some g → FB w K g (S.fl g) (fv g)) := fun x g hg => h.file g (h.inN _ (lk_some_mem hg)).1
  obtain ⟨D, hown, hkd, hhas, hat⟩ := h.now
  have HHAS : Hid (∀ x, Maps.has D (.string x) = (lk S.now x).isSome) := hhas
  have HAT : Hid (∀ x, D.atKey (.string x) (gD none) = gD (lk S.now x)) := hat
  have HKD : Hid (Kd S.now) := hkd
  have HOWN : Hid (w.ownsMap Tryd.prog 9 ptrElem bn S.now.length D) := hown
  have hlb : ∀ x, lenX S.fl S.now x ≤ 1073741824 := fun x => by
    cases hl : lk S.now x with
    | none => unfold lenX; rw [hl]; simp
    | some g => rw [lenX_some hl]; exact (HF.out x g hl).big
  have HLB : Hid (∀ x, lenX S.fl S.now x ≤ 1073741824) := hlb
  clear h c0 c2 c3 c4 c5 hhas hat hkd hlb
  go_enter Tryd.func24, Tryd.ntmps24
  go_wp2_with (first
    | (at_range; refine wpList_range_own _ rfl _ 62 rfl 9 67 keyS Tryd.underlying62 ptrElem bn S.now.length D rfl hown ?_; intro w0 hrg0 hg0 hs0) | go_in)
  clear hown
  go_frame
  go_loopw [3] (fun u wr => ∃ (left : Lit → Bool) (cnt : Nat) (ss : List (List UInt8)), wr.ranges Tryd.prog 9 ptrElem bn w.heap.size S.now.length D left cnt ∧ Collected D left ss ∧ u = .int .i64 (((ss.map (lenX S.fl S.now)).sum : Nat) : Int) ∧ Below w.heap.size w wr) (fun _ wr => wr.rangeLeft bn w.heap.size)
  case atStart =>
    exact ⟨_, _, [], hrg0, Collected.start D, rfl, (Below.refl _ w).grown hg0 (Nat.le_refl _) (fun k hk => by cases hk)⟩
  case round =>
    obtain ⟨left, cnt, ss, hrg, hC, rfl, hB⟩ := hrel
    have HB : Hid (Below w.heap.size w wr) := hB
    have HC : Hid (Collected D left ss) := hC
    clear hB hC hrg0 hg0 hs0
    have hsl := Collected.le (w := wr) (b := bn) (n := 0) HC.out HKD.out HHAS.out
    have hsum := sum_le (ss := ss) HLB.out
    have hsum2 : (ss.map (lenX S.fl S.now)).sum ≤ 1000000 * 1073741824 := Nat.le_trans hsum (Nat.mul_le_mul_right _ (by omega))
    clear hsum hsl
    have HRG : Hid (wr.ranges Tryd.prog 9 ptrElem bn w.heap.size S.now.length D left cnt) := hrg
    clear hrg
    go_wp2_with (first
      | (at_next; refine wpList_next_FM _ rfl _ rfl bn w.heap.size S.now.length S.now D HAT.out HHAS.out left cnt rfl HRG.out ?_ ?_) | go_in)
    · intro hc0 hl0
      have HL0 : Hid (∀ kl, left kl = false) := hl0
      clear hl0 hc0
      go_wp2
      go_ret
      refine ⟨?_, HB.out⟩
      have hp := (HC.out.perm HOWN.out keyS Tryd.underlying9 HL0.out).trans (keys_perm HOWN.out HKD.out HHAS.out).symm
      rw [usd_perm HKD.out hp]
      rfl
    · intro x g w2 cnt2 hlk hleft hatx hrg2 hlt hgr2 hsz2 hen
      have hf := HF.out x g hlk
      have HB2 : Hid (Below w.heap.size w w2) := HB.out.grown hgr2 (HB.out.size) (fun k hk => by cases hk; exact Nat.le_refl _)
      obtain ⟨fa, fc, hfv, _⟩ := own_form hf.row
      have hcell : w2.cell? ⟨g, 0, none⟩ = some (.slice fa (S.fl g).1.length fc) := by
        have hb := HB2.out.block g hf.lt
        have : w2.heap[g]? = some (.cells #[.slice fa (S.fl g).1.length fc, .int .i64 ((S.fl g).2 : Int)] 71 (0, 0)) := by rw [hb, hf.cell, hfv]
        simp [World.cell?, this]
      have hbig := hf.big
      have HC2 : Hid (Collected D (fun z => left z && !z.sameKey (.string x)) (ss ++ [x])) := HC.out.step hleft hatx
      have HS2 : Hid (((ss ++ [x]).map (lenX S.fl S.now)).sum = (ss.map (lenX S.fl S.now)).sum + (S.fl g).1.length) := by
        unfold Hid; rw [List.map_append, List.sum_append_nat]; simp [lenX_some hlk]
      have HRG2 : Hid (w2.ranges Tryd.prog 9 ptrElem bn w.heap.size S.now.length D (fun z => left z && !z.sameKey (.string x)) cnt2) := hrg2
      have HM : Hid (w2.rangeLeft bn w.heap.size < wr.rangeLeft bn w.heap.size) := by unfold Hid; rw [hrg2.left_eq, HRG.out.left_eq]; exact hlt
      clear hrg2 hgr2 hsz2 hatx hleft hf hfv hlt
      generalize hn : (S.fl g).1.length = n at *
      generalize hsm : (ss.map (lenX S.fl S.now)).sum = sm at *
      clear hn hsm
      have hno : (sm : Int) + (n : Int) ≤ 9223372036854775807 := by omega
      go_wp2
      go_roundw
      case rel => exact ⟨_, cnt2, ss ++ [x], HRG2.out, HC2.out, by rw [HS2.out]; go_num, HB2.out⟩
      case measure => exact HM.out
end Go.Proofs.YtmjfcneofpddiaaDoor
