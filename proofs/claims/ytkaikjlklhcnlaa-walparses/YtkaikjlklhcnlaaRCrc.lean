/- Contract of the document's Crc32: the rest of a division, bit by bit. -/
import Derived.Test.YtkaikjlklhcnlaaSumsM
import Derived.Test.YtkaikjlklhcnlaaU8
import Derived.Test.YtkaikjlklhcnlaaVarM
import Derived.Test.YtkaikjlklhcnlaaBsM
import Derived.Laws.OwnMore
import Derived.Test.YtkaikjlklhcnlaaFew
namespace Go.Proofs.Ytkaikjlklhcnlaa
open Go.RowKit
set_option linter.unusedVariables false

theorem Try.infoB : (Try.prog.info? 4).map (fun i => (i.zero, i.size, i.bytes)) = some (some (.bool false), 1, 1) := by kernel_rfl
/-- A row of bits as cells. -/
def bl (n : Nat) (T : Nat → Bool) : List Value := (List.range n).map fun j => Value.bool (T j)
def updB (T : Nat → Bool) (j : Nat) (v : Bool) : Nat → Bool := fun i => if i = j then v else T i
theorem bl_len (n : Nat) (T : Nat → Bool) : (bl n T).length = n := by simp [bl]
theorem bl_at (n : Nat) (T : Nat → Bool) (j : Nat) (h : j < n) : (bl n T)[j]? = some (.bool (T j)) := by simp [bl, h]
theorem bl_set (n : Nat) (T : Nat → Bool) (j : Nat) (v : Bool) : (bl n T).set j (.bool v) = bl n (updB T j v) := by
  apply List.ext_getElem?
  intro i
  by_cases hi : i < n
  · rw [bl_at _ _ _ hi, List.getElem?_set, bl_at _ _ _ hi, bl_len]
    unfold updB
    by_cases e : j = i
    · subst e; simp [hi]
    · have e' : ¬ i = j := fun h => e h.symm
      simp [e, e']
  · rw [List.getElem?_eq_none (by rw [List.length_set, bl_len]; omega), List.getElem?_eq_none (by rw [bl_len]; omega)]
theorem bl_congr (n : Nat) (T S : Nat → Bool) (h : ∀ j, j < n → T j = S j) : bl n T = bl n S := by
  unfold bl
  exact List.map_congr_left fun j hj => by rw [h j (List.mem_range.1 hj)]
theorem bl_made (n : Nat) : (madeCells (Value.bool false).cells (n * 1)).toList = bl n fun _ => false := by
  rw [Nat.mul_one]
  show (madeCells #[Value.bool false] n).toList = _
  rw [toList_madeCells_one]
  unfold bl
  rw [List.map_const']; simp
/-- The call's own row of n bits, in block g. -/
def BW (w : World) (g n : Nat) (T : Nat → Bool) (wr : World) : Prop :=
  wr.ownsRow w.heap.size 4 1 (.slice (some ⟨g, 0, none⟩) n n) n (bl n T) ∧ Below w.heap.size w wr ∧ w.heap.size ≤ g
theorem BW.cell {w wr : World} {g n : Nat} {T : Nat → Bool} (h : BW w g n T wr) {j : Nat} (hj : j < n) : wr.cell? ⟨g, j, none⟩ = some (.bool (T j)) := by
  rw [h.1.cellAt j (by omega), bl_at n T j hj]
theorem BW.free {w wr : World} {g n : Nat} {T : Nat → Bool} (h : BW w g n T wr) (j : Nat) : wr.frozen? ⟨g, j, none⟩ = false := h.1.frozenAt j
theorem BW.store {w wr : World} {g n : Nat} {T : Nat → Bool} (h : BW w g n T wr) (j : Nat) (v : Bool) : BW w g n (updB T j v) (wr.setCell ⟨g, j, none⟩ (.bool v)) := by
  refine ⟨?_, h.2.1.setCell h.2.2 _, h.2.2⟩
  have := (h.1.stored j (.bool v)).1
  rw [bl_set] at this; exact this
theorem BW.congr {w wr : World} {g n : Nat} {T S : Nat → Bool} (h : BW w g n T wr) (e : ∀ j, j < n → T j = S j) : BW w g n S wr := by
  unfold BW at *; rw [← bl_congr n T S e]; exact h

theorem l1_one {w wr : World} {g n k : Nat} {R : Nat → Bool} (h : BW w g n (fun j => decide (j < k) && R j) wr) (v : Bool) (hv : v = R k) :
    BW w g n (fun j => decide (j < k + 1) && R j) (wr.setCell ⟨g, k, none⟩ (.bool v)) := by
  refine (h.store k v).congr fun j _ => ?_
  unfold updB
  by_cases e : j = k
  · subst e; simp [hv]
  · by_cases hl : j < k
    · have : j < k + 1 := by omega
      simp [e, hl, this]
    · have : ¬ j < k + 1 := by omega
      simp [e, hl, this]
theorem l1_two {w wr : World} {g n k : Nat} {R : Nat → Bool} (h : BW w g n (fun j => decide (j < k) && R j) wr) (u v : Bool) (hv : v = R k) :
    BW w g n (fun j => decide (j < k + 1) && R j) ((wr.setCell ⟨g, k, none⟩ (.bool u)).setCell ⟨g, k, none⟩ (.bool v)) := by
  refine ((h.store k u).store k v).congr fun j _ => ?_
  unfold updB
  by_cases e : j = k
  · subst e; simp [hv]
  · by_cases hl : j < k
    · have : j < k + 1 := by omega
      simp [e, hl, this]
    · have : ¬ j < k + 1 := by omega
      simp [e, hl, this]
theorem bit_eq (s : ByteArray) (k : Nat) (h : k / 8 < s.size) : (((s[k / 8].toNat : Int) / 2 ^ (k % 8)).tmod 2 == 1) = (mb s.data.toList k == 1) := by
  have e : mb s.data.toList k = s[k / 8].toNat / 2 ^ (k % 8) % 2 := by
    unfold mb bitOf
    rw [List.getElem?_eq_getElem (by simpa using h)]; rfl
  have e2 : ((s[k / 8].toNat : Int) / 2 ^ (k % 8)).tmod 2 = ((s[k / 8].toNat / 2 ^ (k % 8) % 2 : Nat) : Int) := by
    have : ((s[k / 8].toNat : Int) / 2 ^ (k % 8)) = ((s[k / 8].toNat / 2 ^ (k % 8) : Nat) : Int) := by simp
    rw [this, Int.tmod_eq_emod_of_nonneg (Int.natCast_nonneg _)]; rfl
  rw [e, e2]
  rcases (show s[k / 8].toNat / 2 ^ (k % 8) % 2 = 0 ∨ s[k / 8].toNat / 2 ^ (k % 8) % 2 = 1 by omega) with h | h <;> rw [h] <;> rfl
theorem mb_out (s : ByteArray) (k : Nat) (h : 8 * s.size ≤ k) : (mb s.data.toList k == 1) = false := by
  unfold mb
  rw [List.getElem?_eq_none (by simp; omega)]; simp [bitOf]
theorem flip_zero (T : Nat → Bool) (i j : Nat) : flip T i 0 j = T j := by
  unfold flip
  have : (decide (i ≤ j) && decide (j < i + 0)) = false := by
    by_cases h : i ≤ j
    · have : decide (j < i + 0) = false := decide_eq_false (by omega)
      rw [this, Bool.and_false]
    · rw [decide_eq_false h, Bool.false_and]
  rw [this]; simp
theorem flip_at (T : Nat → Bool) (i k : Nat) : flip T i k (i + k) = T (i + k) := by unfold flip; simp
theorem flip_hit {T : Nat → Bool} {i k : Nat} (hp : pol k = true) (j : Nat) : updB (flip T i k) (i + k) (!(flip T i k (i + k))) j = flip T i (k + 1) j := by
  unfold updB
  by_cases e : j = i + k
  · subst e
    rw [if_pos rfl, flip_at]
    unfold flip
    simp [hp]
  · rw [if_neg e]
    unfold flip
    have : decide (j < i + k) = decide (j < i + (k + 1)) := by
      by_cases h : j < i + k
      · have : j < i + (k + 1) := by omega
        simp [h, this]
      · have : ¬ j < i + (k + 1) := by omega
        simp [h, this]
    rw [this]
theorem flip_miss {T : Nat → Bool} {i k : Nat} (hp : pol k = false) (j : Nat) : flip T i k j = flip T i (k + 1) j := by
  unfold flip
  by_cases e : j = i + k
  · subst e; simp [hp]
  · have : decide (j < i + k) = decide (j < i + (k + 1)) := by
      by_cases h : j < i + k
      · have : j < i + (k + 1) := by omega
        simp [h, this]
      · have : ¬ j < i + (k + 1) := by omega
        simp [h, this]
    rw [this]
theorem pol_go : ∀ m : Fin 33, (bits BinOp.and IntKind.i64 (4374732215 / 2 ^ (32 - m.val)) 1 == 1) = pol m.val := by decide +kernel
theorem bw_hit {w wr : World} {g n i k : Nat} {T : Nat → Bool} (h : BW w g n (flip T i k) wr) (hp : pol k = true) : BW w g n (flip T i (k + 1)) (wr.setCell ⟨g, i + k, none⟩ (.bool (!(flip T i k (i + k))))) :=
  (h.store _ _).congr fun j _ => flip_hit hp j

set_option maxRecDepth 100000 in
set_option maxHeartbeats 1000000 in
theorem rcrc_any (s : ByteArray) (w : World) (hs : s.size ≤ 10000) :
    Calls Try.prog 36 #[.string s] w fun e w' => e = .returned (.int .u32 (crcV 0 s.data.toList)) ∧ Below w.heap.size w w' := by
  obtain ⟨i0, hi, hz0, hz1, hz2⟩ := info_parts Try.infoB
  go_enter Try.func36, Try.ntmps36
  go_wp2_with (at_make; refine wpList_make_full _ rfl _ _ 31 rfl w.heap.size 4 i0 (.bool false) 1 Try.underlying31 hi hz0 hz1 .i64 .i64 _ _ (8 * s.size + 32) rfl rfl (by omega) (by omega) (by rw [hz2]; omega) (by unfold maxLen; omega) (Nat.le_refl _) ?_; intro w1 hown hgrow)
  have hst : BW w w.heap.size (8 * s.size + 32) (fun _ => false) w1 := ⟨by rw [← bl_made]; exact hown, (Below.refl _ w).grown hgrow (Nat.le_refl _) (fun k hk => by cases hk), Nat.le_refl _⟩
  clear hown hgrow hi hz0 hz1 hz2
  obtain ⟨g, hg⟩ : ∃ g, g = w.heap.size := ⟨_, rfl⟩
  rw [← hg] at hst ⊢
  have HG : Hid (_ = _) := hg
  clear hg
  go_loopw [16] (fun i wr => ∃ k : Nat, k ≤ 8 * s.size + 32 ∧ i = .int .i64 k ∧ BW w g (8 * s.size + 32) (fun j => decide (j < k) && rowAt s.data.toList 0 j) wr) (fun i _ => 8 * s.size + 32 - (intOf i).toNat)
  case atStart => exact ⟨0, by omega, rfl, hst.congr fun j _ => by simp⟩
  case round =>
    clear hst
    obtain ⟨k, hk, rfl, hW⟩ := hrel
    by_cases hlt : k < 8 * s.size + 32
    · have hcell := hW.cell hlt
      have hfree := hW.free k
      have hlt' : (k : Int) < 8 * (s.size : Int) + 32 := by omega
      by_cases h8 : k < 8 * s.size
      · have h8' : (k : Int) < 8 * (s.size : Int) := by omega
        have hq : k / 8 < s.size := by omega
        have hbit := bit_eq s k hq
        have hR := row_start s.data.toList k
        by_cases h32 : k < 32
        · have h32' : (k : Int) < 32 := by omega
          have HV : Hid ((!(((s[k / 8].toNat : Int) / 2 ^ (k % 8)).tmod 2 == 1)) = rowAt s.data.toList 0 k) := by
            unfold Hid; rw [hbit, hR]; simp [h32]
          clear hbit hR
          go_wp2
          go_roundw
          case rel => exact ⟨k + 1, by omega, by go_num, l1_two hW _ _ HV.out⟩
          case measure => simp [intOf]; omega
        · have HV : Hid ((((s[k / 8].toNat : Int) / 2 ^ (k % 8)).tmod 2 == 1) = rowAt s.data.toList 0 k) := by
            unfold Hid; rw [hbit, hR]; simp [h32]
          clear hbit hR
          go_wp2
          go_roundw
          case rel => exact ⟨k + 1, by omega, by go_num, l1_one hW _ HV.out⟩
          case measure => simp [intOf]; omega
      · have h8' : decide ((k : Int) < 8 * (s.size : Int)) = false := by simp; omega
        have hR := row_start s.data.toList k
        rw [mb_out s k (by omega)] at hR
        by_cases h32 : k < 32
        · have h32' : (k : Int) < 32 := by omega
          have HV : Hid (true = rowAt s.data.toList 0 k) := by unfold Hid; rw [hR]; simp [h32]
          clear hR
          go_wp2
          go_roundw
          case rel => exact ⟨k + 1, by omega, by go_num, l1_two hW _ _ HV.out⟩
          case measure => simp [intOf]; omega
        · have HV : Hid (false = rowAt s.data.toList 0 k) := by unfold Hid; rw [hR]; simp [h32]
          clear hR
          go_wp2
          go_roundw
          case rel => exact ⟨k + 1, by omega, by go_num, l1_one hW _ HV.out⟩
          case measure => simp [intOf]; omega
    · have hW2 : BW w g (8 * s.size + 32) (rowAt s.data.toList 0) wr := hW.congr fun j hj => by
        have : j < k := by omega
        simp [this]
      have HW2 : Hid (BW _ _ _ _ _) := hW2
      clear hW hW2
      go_wp2
      go_loopw [5] (fun v wr => ∃ i : Nat, i ≤ 8 * s.size ∧ v = .int .i64 i ∧ BW w g (8 * s.size + 32) (rowAt s.data.toList i) wr) (fun v _ => 8 * s.size - (intOf v).toNat)
      case atStart => exact ⟨0, by omega, rfl, HW2.out⟩
      case round =>
        clear HW2
        obtain ⟨i, hi8, rfl, hW⟩ := hrel
        by_cases hlt2 : i < 8 * s.size
        · have hcell := hW.cell (show i < 8 * s.size + 32 by omega)
          have hlt2' : (i : Int) < 8 * (s.size : Int) := by omega
          cases hhead : rowAt s.data.toList i i
          · rw [hhead] at hcell
            have hn : BW w g (8 * s.size + 32) (rowAt s.data.toList (i + 1)) wr := hW.congr fun j _ => by rw [row_next, hhead]; rfl
            have HN : Hid (BW _ _ _ _ _) := hn
            clear hn hW hhead
            go_wp2
            go_roundw
            case rel => exact ⟨i + 1, by omega, by go_num, HN.out⟩
            case measure => simp [intOf]; omega
          · rw [hhead] at hcell
            have HH : Hid (_ = _) := hhead
            have hW0 : Hid (BW w g (8 * s.size + 32) (flip (rowAt s.data.toList i) i 0) wr) := hW.congr fun j _ => (flip_zero _ _ _).symm
            clear hhead hW
            go_wp2
            go_loopw [6] (fun v wr => ∃ m : Nat, m ≤ 33 ∧ v = .int .i64 m ∧ BW w g (8 * s.size + 32) (flip (rowAt s.data.toList i) i m) wr) (fun v _ => 33 - (intOf v).toNat)
            case atStart => exact ⟨0, by omega, rfl, hW0.out⟩
            case round =>
              clear hW0
              obtain ⟨m, hm, rfl, hW⟩ := hrel
              by_cases h33 : m < 33
              · have h33' : (m : Int) ≤ 32 := by omega
                have hc2 := hW.cell (show i + m < 8 * s.size + 32 by omega)
                have hf2 := hW.free (i + m)
                have hp := pol_go ⟨m, h33⟩
                simp only at hp
                cases hpm : pol m
                · rw [hpm] at hp
                  have HN : Hid (BW w g (8 * s.size + 32) (flip (rowAt s.data.toList i) i (m + 1)) wr) := hW.congr fun j _ => flip_miss hpm j
                  clear hpm hW
                  go_wp2
                  go_roundw
                  case rel => exact ⟨m + 1, by omega, by go_num, HN.out⟩
                  case measure => simp [intOf]; omega
                · rw [hpm] at hp
                  have HN : Hid (BW _ _ _ _ _) := bw_hit hW hpm
                  clear hpm hW
                  go_wp2
                  go_roundw
                  case rel => exact ⟨m + 1, by omega, by go_num, HN.out⟩
                  case measure => simp [intOf]; omega
              · obtain rfl : m = 33 := by omega
                have HN : Hid (BW w g (8 * s.size + 32) (rowAt s.data.toList (i + 1)) wr) := hW.congr fun j _ => by rw [row_next, HH.out]; rfl
                clear hW HH
                go_wp2
                go_roundw
                case rel => exact ⟨i + 1, by omega, by go_num, HN.out⟩
                case measure => simp [intOf]; omega
        · have hil : i = 8 * s.data.toList.length := by rw [size_toList]; omega
          have hc : ∀ j, j < 32 → wr.cell? ⟨g, 8 * s.size + j, none⟩ = some (.bool ((reg s.data.toList (8 * s.data.toList.length)).testBit j)) := fun j hj => by
            rw [hW.cell (show 8 * s.size + j < 8 * s.size + 32 by omega), hil, ← row_end, size_toList]
          have hC := reg_lt s.data.toList (8 * s.data.toList.length)
          have HE : Hid (_ = _) := reg_all s.data.toList
          have hbel : Below w.heap.size w wr := hW.2.1
          have HC : Hid _ := hc
          generalize reg s.data.toList (8 * s.data.toList.length) = C at *
          clear hc hil hW
          go_wp2
          go_loop [7, 8] (fun c v => ∃ m : Nat, m ≤ 32 ∧ v = .int .i64 m ∧ c = .int .u32 (low C m)) (fun _ v => 32 - (intOf v).toNat)
          case atStart => exact ⟨0, by omega, rfl, by rw [low_zero]; rfl⟩
          case round =>
            obtain ⟨m, hm, rfl, rfl⟩ := hrel
            by_cases h32 : m < 32
            · have hcm := HC.out m h32
              have hls := low_succ C m hC h32
              have hll := low_lt C m
              have h32' : (m : Int) < 32 := by omega
              cases hb : C.testBit m
              · rw [hb] at hcm hls
                have HL : Hid (_ = _) := hls
                have hpw : (2 : Nat) ^ m ≤ 2147483648 := Nat.pow_le_pow_right (by decide) (show m ≤ 31 by omega)
                have HS : Hid ((((low C m : Nat) : Int) + 2 ^ m % 4294967296) % 4294967296 = ((low C (m + 1) : Nat) : Int)) := by
                  unfold Hid
                  have e : ((2 : Int) ^ m) = ((2 ^ m : Nat) : Int) := by simp
                  have h2 : low C (m + 1) = low C m + 2 ^ m := hls
                  rw [e, h2]; omega
                clear hls hb hll hpw
                go_wp2
                go_round
                case rel => exact ⟨m + 1, by omega, by go_num, by rw [← HS.out]⟩
                case measure => simp [intOf]; omega
              · rw [hb] at hcm hls
                have HL : Hid (_ = _) := hls
                clear hls hb
                go_wp2
                go_round
                case rel => exact ⟨m + 1, by omega, by go_num, by rw [HL.out]; rfl⟩
                case measure => simp [intOf]; omega
            · obtain rfl : m = 32 := by omega
              have HL : Hid (low C 32 = crcV 0 s.data.toList) := by unfold Hid; rw [low_all, HE.out]
              clear HE
              go_wp2
              go_ret
              refine ⟨?_, hbel⟩
              rw [← HL.out]; rfl
end Go.Proofs.Ytkaikjlklhcnlaa
