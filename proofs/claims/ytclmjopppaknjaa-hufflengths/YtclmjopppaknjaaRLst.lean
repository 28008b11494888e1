/- Contract of the document's least. -/
import Derived.Test.YtclmjopppaknjaaHMrg
import Derived.Test.YtclmjopppaknjaaHRows
import Derived.Test.YtclmjopppaknjaaPkgT
namespace Go.Proofs.Ytclmjopppaknjaa
open Go.RowKit
set_option linter.unusedVariables false
set_option linter.unusedSimpArgs false

theorem bup_lo {b : Int} {c : Nat} {r : Int} (h : -1 ≤ b) : -1 ≤ bup b c r := by unfold bup; split <;> omega
theorem bst_lo (rest : Nat → Int) (l : List Nat) (len : Nat) : ∀ k, -1 ≤ bst rest l len k
  | 0 => bup_lo (by omega)
  | k + 1 => bup_lo (bst_lo rest l len k)
theorem lst_lo (most f : Nat) (l : List Nat) (room : Nat) : -1 ≤ lst most f l room := by
  cases f with
  | zero => rw [lst]; split <;> omega
  | succ f =>
    rw [lst]
    split
    · split <;> omega
    · split
      · omega
      · exact bst_lo _ _ _ _
theorem dot_hi (most : Nat) : ∀ l r : List Nat, (∀ x ∈ r, x ≤ most) → dot l r ≤ l.sum * most
  | [], r, _ => by simp [dot]
  | a :: l, [], _ => by simp [dot]
  | a :: l, b :: r, h => by
    have ih := dot_hi most l r (fun x hx => h x (by simp [hx]))
    have hb : a * b ≤ a * most := Nat.mul_le_mul_left _ (h b (by simp))
    unfold dot at ih ⊢
    rw [List.zipWith_cons_cons, List.sum_cons, List.sum_cons, Nat.add_mul]; omega
theorem sum_hi (M : Nat) : ∀ l : List Nat, (∀ x ∈ l, x ≤ M) → l.sum ≤ l.length * M
  | [], _ => by simp
  | a :: l, h => by
    have ih := sum_hi M l (fun x hx => h x (by simp [hx]))
    have := h a (by simp)
    rw [List.sum_cons, List.length_cons, Nat.succ_mul]; omega
theorem lst_hi {most f : Nat} (hf : f ≤ most) (hm : most ≤ 15) {l : List Nat} (hl : l.length ≤ 9) (hM : ∀ x ∈ l, x ≤ 1000000) (room : Nat) : lst most f l room ≤ 135000000 := by
  by_cases h : 0 ≤ lst most f l room
  · obtain ⟨lens, hA, he⟩ := lst_sound most f hf l room h
    have h1 := dot_hi most l lens hA.hi
    have h2 := sum_hi 1000000 l hM
    have h3 : l.sum ≤ 9000000 := by omega
    have h4 : l.sum * most ≤ 9000000 * 15 := Nat.mul_le_mul h3 hm
    omega
  · omega
theorem pre_hi {l : List Nat} (hl : l.length ≤ 9) (hM : ∀ x ∈ l, x ≤ 1000000) (k : Nat) : preN l k ≤ 9000000 := by
  have := sum_hi 1000000 (l.take k) (fun x hx => hM x (List.mem_of_mem_take hx))
  unfold preN
  rw [List.length_take] at this
  omega
theorem pre_next (l : List Nat) (k : Nat) (h : k < l.length) : preN l (k + 1) = preN l k + l.getD k 0 := by
  unfold preN
  rw [List.take_add_one, List.getElem?_eq_getElem h, List.sum_append, List.getD_eq_getElem?_getD, List.getElem?_eq_getElem h]; simp
/-- Without the first k. -/
theorem NR.dropK {w : World} {g o n cap k : Nat} {l : List Nat} (hn : n = l.length) (hk : k ≤ n) (hc : n ≤ cap) (hg : g < w.heap.size) (hcell : ∀ i, i < l.length → w.cell? ⟨g, o + i, none⟩ = some (.int .i64 (l.getD i 0 : Int))) :
    ∃ a c, (∀ W, (Instr.slice 22 (.slice (some ⟨g, o, none⟩) n cap) (some (.int .i64 (k : Int))) none none).run Try.prog W = .ok (.slice a (n - k) c) W) ∧ NR w (.slice a (n - k) c) (l.drop k) := by
  refine ⟨if cap - k = 0 then some ⟨g, o, none⟩ else some ⟨g, o + k, none⟩, cap - k, fun W => ?_, ?_⟩
  · rw [run_slice_l (ht := Try.undK) (h0 := by omega) (h1 := by omega), Try.szK]
    simp only [Result.andThen, sliced]
    by_cases e : cap - k = 0
    · have e' : cap = k := by omega
      subst e'
      simp [hn]
    · have e' : ¬ cap = k := by omega
      simp [e, e', Addr.add]
  · refine ⟨_, _, by rw [List.length_drop, hn], by rw [List.length_drop]; omega, fun hne => ?_⟩
    have hlt : k < l.length := by
      by_cases q : k < l.length
      · exact q
      · exact absurd (List.drop_eq_nil_of_le (by omega)) hne
    refine ⟨g, o + k, by rw [if_neg (by omega)], hg, fun i hi => ?_⟩
    rw [List.length_drop] at hi
    rw [Nat.add_assoc, hcell (k + i) (by omega)]
    rw [List.getD_eq_getElem?_getD, List.getD_eq_getElem?_getD, List.getElem?_drop]
/-- The best of the first k tries. -/
def bstP (rest : Nat → Int) (l : List Nat) (len k : Nat) : Int := if k = 0 then -1 else bst rest l len (k - 1)
theorem bstP_next (rest : Nat → Int) (l : List Nat) (len k : Nat) : bstP rest l len (k + 1) = bup (bstP rest l len k) (preN l k * len) (rest k) := by
  unfold bstP
  rw [if_neg (by omega), Nat.add_sub_cancel]
  cases k with
  | zero => rw [if_pos rfl, preN_zero, Nat.zero_mul, bst]
  | succ k => rw [if_neg (by omega), Nat.add_sub_cancel, bst]
theorem bstP_lo (rest : Nat → Int) (l : List Nat) (len k : Nat) : -1 ≤ bstP rest l len k := by
  unfold bstP; split
  · omega
  · exact bst_lo _ _ _ _
theorem bstP_hi (rest : Nat → Int) (l : List Nat) (len k : Nat) (h : ∀ j, rest j ≤ 135000000) (hp : ∀ j, preN l j ≤ 9000000) (hl : len ≤ 15) : bstP rest l len k ≤ 270000000 := by
  unfold bstP; split
  · omega
  · by_cases q : 0 ≤ bst rest l len (k - 1)
    · obtain ⟨j, _, _, e⟩ := bst_some rest l len (k - 1) q
      have h1 := h j
      have h2 : preN l j * len ≤ 9000000 * 15 := Nat.mul_le_mul (hp j) hl
      omega
    · omega

set_option maxRecDepth 100000 in
set_option maxHeartbeats 2000000 in
theorem least_any (most : Nat) (hm : most ≤ 15) : ∀ (f : Nat), f ≤ most → ∀ (v : Value) (l : List Nat) (room : Nat) (w : World), NR w v l → l.length ≤ 9 → (∀ x ∈ l, x ≤ 1000000) → room ≤ 1000 →
    Calls Try.prog 32 #[v, .int .i64 (most : Int), .int .i64 ((most + 1 - f : Nat) : Int), .int .i64 (room : Int)] w fun e w' => e = .returned (.int .i64 (lst most f l room)) ∧ w' = w := by
  intro f
  induction f with
  | zero =>
    intro hf v l room w hV hl hM hr
    obtain ⟨a, cap, rfl, hc, _⟩ := hV
    rw [Nat.sub_zero]
    by_cases h0 : l.length = 0
    · by_cases hr0 : room = 0
      · subst hr0
        have HE : Hid (lst most 0 l 0 = 0) := by unfold Hid; rw [lst, if_pos ⟨h0, rfl⟩]
        rw [h0]
        go_enter Try.func32, Try.ntmps32
        go_wp2
        go_ret
        exact ⟨by rw [HE.out]; rfl, rfl⟩
      · have HE : Hid (lst most 0 l room = -1) := by unfold Hid; rw [lst, if_neg (fun q => hr0 q.2)]
        have hri : ¬ (room : Int) = 0 := by omega
        rw [h0]
        go_enter Try.func32, Try.ntmps32
        go_wp2
        go_ret
        exact ⟨by rw [HE.out]; rfl, rfl⟩
    · have HE : Hid (lst most 0 l room = -1) := by unfold Hid; rw [lst, if_neg (fun q => h0 q.1)]
      have h0i : ¬ (l.length : Int) = 0 := by omega
      have hgt : (most : Int) < ((most + 1 : Nat) : Int) := by omega
      generalize most + 1 = L at *
      go_enter Try.func32, Try.ntmps32
      go_wp2
      go_ret
      exact ⟨by rw [HE.out]; rfl, rfl⟩
  | succ f ih =>
    intro hf v l room w hV hl hM hr
    have ih := ih (by omega)
    have HLS : Hid (lst most (f + 1) l room = if l.length = 0 then (if room = 0 then 0 else -1) else if room = 0 ∨ 2 * l.length < room then -1 else bst (fun k => lst most f (l.drop k) (2 * (room - k))) l (most - f) (min l.length room)) := by unfold Hid; rw [lst]
    rw [show most + 1 - (f + 1) = most - f by omega]
    obtain ⟨a, cap, rfl, hc, hf4⟩ := hV
    by_cases h0 : l.length = 0
    · rw [if_pos h0] at HLS
      by_cases hr0 : room = 0
      · rw [if_pos hr0] at HLS
        rw [h0]
        have HE : Hid _ := HLS.out
        generalize lst most (f + 1) l room = R at *
        subst hr0
        go_enter Try.func32, Try.ntmps32
        go_wp2
        go_ret
        exact ⟨by rw [HE.out]; rfl, rfl⟩
      · rw [if_neg hr0] at HLS
        have hri : ¬ (room : Int) = 0 := by omega
        rw [h0]
        go_enter Try.func32, Try.ntmps32
        go_wp2
        go_ret
        exact ⟨by rw [HLS.out]; rfl, rfl⟩
    · rw [if_neg h0] at HLS
      have h0i : ¬ (l.length : Int) = 0 := by omega
      have hng : ¬ (most : Int) < ((most - f : Nat) : Int) := by omega
      obtain ⟨L, hL⟩ : ∃ L, most - f = L := ⟨_, rfl⟩
      have hL1 : most + 1 - f = L + 1 := by omega
      rw [hL] at HLS hng ⊢
      rw [hL1] at ih
      have hL15 : L ≤ 15 := by omega
      clear hL hL1
      by_cases hq : room = 0 ∨ 2 * l.length < room
      · rw [if_pos hq] at HLS
        by_cases hr0 : room = 0
        · subst hr0
          go_enter Try.func32, Try.ntmps32
          go_wp2
          go_ret
          exact ⟨by rw [HLS.out]; rfl, rfl⟩
        · have hri : ¬ (room : Int) = 0 := by omega
          have h2i : 2 * (l.length : Int) < (room : Int) := by omega
          go_enter Try.func32, Try.ntmps32
          go_wp2
          go_ret
          exact ⟨by rw [HLS.out]; rfl, rfl⟩
      · rw [if_neg hq] at HLS
        have hri : ¬ (room : Int) = 0 := by omega
        have h2i : ¬ 2 * (l.length : Int) < (room : Int) := by omega
        obtain ⟨g, o, rfl, hg, hcell⟩ := hf4 (fun e => h0 (by rw [e]; rfl))
        have HD : Hid (∀ k, k ≤ l.length → ∃ a c, (∀ W, (Instr.slice 22 (.slice (some ⟨g, o, none⟩) l.length cap) (some (.int .i64 (k : Int))) none none).run Try.prog W = .ok (.slice a (l.length - k) c) W) ∧ NR w (.slice a (l.length - k) c) (l.drop k)) := fun k hk => NR.dropK rfl hk hc hg hcell
        have HCE : Hid (∀ i, i < l.length → w.cell? ⟨g, o + i, none⟩ = some (.int .i64 (l.getD i 0 : Int))) := hcell
        have HIH : Hid _ := ih
        have HP : Hid (∀ k, preN l k ≤ 9000000) := fun k => pre_hi hl hM k
        have HRH : Hid (∀ k, (fun k => lst most f (l.drop k) (2 * (room - k))) k ≤ 135000000) := fun k => lst_hi (by omega) hm (by rw [List.length_drop]; omega) (fun x hx => hM x (List.mem_of_mem_drop hx)) _
        have HME : Hid (∀ x ∈ l, x ≤ 1000000) := hM
        have HFIN : Hid (bstP (fun k => lst most f (l.drop k) (2 * (room - k))) l L (min l.length room + 1) = lst most (f + 1) l room) := by unfold Hid; rw [HLS.out]; unfold bstP; rw [if_neg (by omega), Nat.add_sub_cancel]
        clear hcell ih hM HLS hf4
        generalize lst most (f + 1) l room = R at *
        go_enter Try.func32, Try.ntmps32
        go_wp2
        go_loop [9, 10, 11] (fun b c i => ∃ k : Nat, k ≤ min l.length room + 1 ∧ i = .int .i64 (k : Int) ∧ b = .int .i64 (bstP (fun k => lst most f (l.drop k) (2 * (room - k))) l L k) ∧ c = .int .i64 ((preN l (k - 1) * L : Nat) : Int)) (fun _ _ i => l.length + 1 - (intOf i).toNat)
        case atStart => exact ⟨0, by omega, rfl, rfl, by rw [Nat.zero_sub, preN_zero, Nat.zero_mul]; rfl⟩
        case round =>
          obtain ⟨k, hk, rfl, rfl, rfl⟩ := hrel
          have hble : ∀ k, bstP (fun k => lst most f (l.drop k) (2 * (room - k))) l L k ≤ 270000000 := fun k => bstP_hi _ l L k HRH.out HP.out hL15
          have hblo := bstP_lo (fun k => lst most f (l.drop k) (2 * (room - k))) l L k
          by_cases hlt : k ≤ min l.length room
          · have hk1 : (k : Int) ≤ (l.length : Int) := by omega
            have hk2 : (k : Int) ≤ (room : Int) := by omega
            by_cases hk0 : k = 0
            · subst hk0
              have HC : Hid (Calls _ _ _ _ _) := HIH.out (.slice (some ⟨g, o, none⟩) l.length cap) l (2 * room) w ⟨_, cap, rfl, hc, fun _ => ⟨g, o, rfl, hg, HCE.out⟩⟩ hl HME.out (by omega)
              rw [show ((2 * room : Nat) : Int) = 2 * (room : Int) by omega, show ((L + 1 : Nat) : Int) = (L : Int) + 1 by omega] at HC
              have hrh : lst most f l (2 * room) ≤ 135000000 := HRH.out 0
              have hrl := lst_lo most f l (2 * room)
              have HNX : Hid (bstP (fun k => lst most f (l.drop k) (2 * (room - k))) l L (0 + 1) = bup (-1) 0 (lst most f l (2 * room))) := by
                unfold Hid; rw [bstP_next, preN_zero, Nat.zero_mul]; rfl
              have HB1 : Hid (∀ b', b' = bstP (fun k => lst most f (l.drop k) (2 * (room - k))) l L (0 + 1) → ∃ k_1 : Nat, k_1 ≤ min l.length room + 1 ∧ Value.int .i64 (1 : Int) = Value.int .i64 (k_1 : Int) ∧ Value.int .i64 b' = Value.int .i64 (bstP (fun k => lst most f (l.drop k) (2 * (room - k))) l L k_1) ∧ Value.int .i64 (0 : Int) = Value.int .i64 ((preN l (k_1 - 1) * L : Nat) : Int)) := fun b' e => ⟨1, by omega, rfl, by rw [e], by rw [Nat.sub_self, preN_zero, Nat.zero_mul]; rfl⟩
              rw [HNX.out] at HB1
              have hb0 : bstP (fun k => lst most f (l.drop k) (2 * (room - k))) l L 0 = -1 := rfl
              have hp0 : ((preN l (0 - 1) * L : Nat) : Int) = 0 := by rw [Nat.zero_sub, preN_zero, Nat.zero_mul]; rfl
              rw [hb0, hp0]
              generalize lst most f l (2 * room) = r at *
              have hwr2 : IntKind.i64.wrap (2 * (room : Int)) = 2 * (room : Int) := by rw [IntKind.wrap_i64]; omega
              clear hble HD HIH HNX hb0 hp0 hblo
              go_wp2_with fail
              refine (Hid.out HC : Calls _ _ _ _ _).mono ?_
              rintro e w1 ⟨rfl, rfl⟩
              by_cases hr0 : 0 ≤ r
              · go_wp2
                go_round
                case rel => exact HB1.out _ (by unfold bup; rw [if_pos ⟨hr0, .inl (by omega)⟩]; simp)
                case measure => simp [intOf]
              · go_wp2
                go_round
                case rel => exact HB1.out _ (by unfold bup; rw [if_neg (fun q => by have := q.1; omega)])
                case measure => simp [intOf]
            · obtain ⟨j, rfl⟩ : ∃ j, k = j + 1 := ⟨k - 1, by omega⟩
              have hj : j < l.length := by omega
              obtain ⟨a', c', hsl, hN⟩ := HD.out (j + 1) (by omega)
              rw [show ((j + 1 : Nat) : Int) = (j : Int) + 1 by omega] at hsl
              have HC : Hid (Calls _ _ _ _ _) := HIH.out _ (l.drop (j + 1)) (2 * (room - (j + 1))) w hN (by rw [List.length_drop]; omega) (fun x hx => HME.out x (List.mem_of_mem_drop hx)) (by omega)
              obtain ⟨d, hd⟩ : ∃ d, room - (j + 1) = d := ⟨_, rfl⟩
              have hdi : (room : Int) - ((j : Int) + 1) = (d : Int) := by omega
              have hdb : d ≤ 1000 := by omega
              have hrh : lst most f (l.drop (j + 1)) (2 * (room - (j + 1))) ≤ 135000000 := HRH.out (j + 1)
              have hrl := lst_lo most f (l.drop (j + 1)) (2 * (room - (j + 1)))
              have HNX : Hid (bstP (fun k => lst most f (l.drop k) (2 * (room - k))) l L (j + 1 + 1) = bup (bstP (fun k => lst most f (l.drop k) (2 * (room - k))) l L (j + 1)) (preN l (j + 1) * L) (lst most f (l.drop (j + 1)) (2 * (room - (j + 1))))) := bstP_next (fun k => lst most f (l.drop k) (2 * (room - k))) l L (j + 1)
              have hbk := hble (j + 1)
              have HB1 : Hid (∀ b', b' = bstP (fun k => lst most f (l.drop k) (2 * (room - k))) l L (j + 1 + 1) → ∃ k_1 : Nat, k_1 ≤ min l.length room + 1 ∧ Value.int .i64 ((j : Int) + 1 + 1) = Value.int .i64 (k_1 : Int) ∧ Value.int .i64 b' = Value.int .i64 (bstP (fun k => lst most f (l.drop k) (2 * (room - k))) l L k_1) ∧ Value.int .i64 ((preN l (j + 1) * L : Nat) : Int) = Value.int .i64 ((preN l (k_1 - 1) * L : Nat) : Int)) := fun b' e => ⟨j + 1 + 1, by omega, by go_num, by rw [e], by rw [Nat.add_sub_cancel]⟩
              have hcl := HCE.out j hj
              have hxm : l.getD j 0 ≤ 1000000 := HME.out _ (by rw [List.getD_eq_getElem?_getD, List.getElem?_eq_getElem hj]; simp)
              have hpn := pre_next l j hj
              have hcs : ((preN l j * L : Nat) : Int) + ((l.getD j 0 * L : Nat) : Int) = ((preN l (j + 1) * L : Nat) : Int) := by rw [hpn, Nat.add_mul]; omega
              have hm1 : preN l j * L ≤ 9000000 * 15 := Nat.mul_le_mul (HP.out j) hL15
              have hm2 : preN l (j + 1) * L ≤ 9000000 * 15 := Nat.mul_le_mul (HP.out (j + 1)) hL15
              have hm3 : l.getD j 0 * L ≤ 1000000 * 15 := Nat.mul_le_mul hxm hL15
              have hxl : (l.getD j 0 : Int) * (L : Int) = ((l.getD j 0 * L : Nat) : Int) := by simp
              rw [Nat.add_sub_cancel, show ((j + 1 : Nat) : Int) = (j : Int) + 1 by omega]
              rw [hd] at HC hrh hrl HNX
              rw [show ((2 * d : Nat) : Int) = 2 * (d : Int) by omega, show ((L + 1 : Nat) : Int) = (L : Int) + 1 by omega] at HC
              rw [HNX.out] at HB1
              clear hble HD HIH HNX hN hpn
              generalize lst most f (l.drop (j + 1)) (2 * d) = r at *
              generalize bstP (fun k => lst most f (l.drop k) (2 * (room - k))) l L (j + 1) = b at *
              generalize l.getD j 0 * L = y at *
              generalize l.getD j 0 = x at *
              generalize preN l (j + 1) * L = c1 at *
              generalize preN l j * L = c0 at *
              have hwr2 : IntKind.i64.wrap (2 * (d : Int)) = 2 * (d : Int) := by rw [IntKind.wrap_i64]; omega
              have hwr3 : IntKind.i64.wrap ((x : Int) * (L : Int)) = (y : Int) := by rw [hxl, IntKind.wrap_i64]; omega
              have hwr4 : IntKind.i64.wrap ((c0 : Int) + (y : Int)) = (c1 : Int) := by rw [hcs, IntKind.wrap_i64]; omega
              have hwr5 : IntKind.i64.wrap ((room : Int) - ((j : Int) + 1)) = (d : Int) := by rw [hdi, IntKind.wrap_i64]; omega
              have hwr6 : IntKind.i64.wrap ((c1 : Int) + r) = (c1 : Int) + r := by rw [IntKind.wrap_i64]; omega
              have hj1 : (j : Int) + 1 ≤ (l.length : Int) := by omega
              have hj2 : (j : Int) + 1 ≤ (room : Int) := by omega
              have hji : (j : Int) < (l.length : Int) := by omega
              clear hcs hxl hdi
              go_wp2_with fail
              refine (Hid.out HC : Calls _ _ _ _ _).mono ?_
              rintro e w1 ⟨rfl, rfl⟩
              by_cases hr0 : 0 ≤ r
              · by_cases hb0 : b < 0
                · go_wp2
                  go_round
                  case rel => exact HB1.out _ (by unfold bup; rw [if_pos ⟨hr0, .inl hb0⟩])
                  case measure => simp [intOf]; omega
                · by_cases hlt2 : (c1 : Int) + r < b
                  · go_wp2
                    go_round
                    case rel => exact HB1.out _ (by unfold bup; rw [if_pos ⟨hr0, .inr hlt2⟩])
                    case measure => simp [intOf]; omega
                  · go_wp2
                    go_round
                    case rel => exact HB1.out _ (by unfold bup; rw [if_neg (fun q => by have := q.2; omega)])
                    case measure => simp [intOf]; omega
              · go_wp2
                go_round
                case rel => exact HB1.out _ (by unfold bup; rw [if_neg (fun q => by have := q.1; omega)])
                case measure => simp [intOf]; omega
          · obtain rfl : k = min l.length room + 1 := by omega
            rw [HFIN.out]
            have hcase : ((min l.length room + 1 : Nat) : Int) ≤ (l.length : Int) ∧ ¬ ((min l.length room + 1 : Nat) : Int) ≤ (room : Int) ∨ ¬ ((min l.length room + 1 : Nat) : Int) ≤ (l.length : Int) := by omega
            generalize min l.length room + 1 = K at *
            generalize ((preN l (K - 1) * L : Nat) : Int) = cc at *
            rcases hcase with ⟨q1, q2⟩ | q1
            · go_wp2
              go_ret
              exact ⟨rfl, rfl⟩
            · go_wp2
              go_ret
              exact ⟨rfl, rfl⟩
end Go.Proofs.Ytclmjopppaknjaa
