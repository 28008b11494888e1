/- Contract of the document's Expand. -/
import Derived.Test.YtdmnmclhfeoghaaMatchX
namespace Go.Proofs.Ytdmnmclhfeoghaa
open Go.RowKit
set_option linter.unusedVariables false

theorem conv_byte (x : Nat) (W : World) : (convert 46 9 (.slice (some ⟨W.heap.size, 0, none⟩) 1 1)).run Try.prog (W.alloc (.cells #[.int .u8 x] 5)) = .ok (.string (bs [x])) (W.alloc (.cells #[.int .u8 x] 5)) :=
  conv_bs (base := W.heap.size) (n := 1) (l := [x]) Try.underlying46 Try.underlying5 Try.underlying9 (World.ownsRow_lit W #[.int .u8 x] 1 (Nat.le_refl _) (by decide) rfl)
theorem bs_more (out : List Nat) (d k : Nat) (h1 : 1 ≤ d) (h2 : d ≤ out.length) : bs (sayN out d k) ++ (bs (sayN out d k)).extract (out.length + k - d) (out.length + k - d + 1) = bs (sayN out d (k + 1)) := by
  have hel := sayN_at out d k h1 h2
  have e : (bs (sayN out d k)).extract (out.length + k - d) (out.length + k - d + 1) = bs [(sayN out d k).getD ((sayN out d k).length - d) 0] := by
    apply ba_ext
    rw [extract_data, bs_data2, bs_data2, show out.length + k - d + 1 - (out.length + k - d) = 1 by omega]
    apply List.ext_getElem?
    intro i
    rw [List.getElem?_take]
    match i with
    | 0 => rw [if_pos (by omega), List.getElem?_drop, Nat.add_zero, List.getElem?_map, hel]; rfl
    | i + 1 => rw [if_neg (by omega)]; rfl
  rw [e, bs_append2]; rfl
set_option maxRecDepth 100000 in
set_option maxHeartbeats 2000000 in
theorem rexpand_any (v : Value) (ts : List Tok) (most : Int) (w : World) (hR : TR w v ts) (hl : ts.length ≤ 100000000) (hb8 : ∀ t ∈ ts, t.b < 256) (hm1 : -9223372036854775808 ≤ most) (hm2 : most ≤ 9223372036854775807) :
    Calls Try.prog 16 #[v, .int .i64 most] w fun e w' => e = .returned (.tuple #[.string (bs (expF most ts []).1), .int .i64 ((expF most ts []).2 : Int)]) ∧ Below w.heap.size w w' := by
  obtain ⟨a, cap, rfl, hf⟩ := hR.form
  have HF : Hid (∀ i t, ts[i]? = some t → ∃ g, a = some ⟨g, 0, none⟩ ∧ g < w.heap.size ∧ w.cell? ⟨g, i * 3, none⟩ = some (.int .u8 (t.b : Int)) ∧ w.cell? ⟨g, i * 3 + 1, none⟩ = some (.int .i64 t.l) ∧ w.cell? ⟨g, i * 3 + 2, none⟩ = some (.int .i64 t.d)) := hf
  clear hf hR
  go_enter Try.func16, Try.ntmps16
  go_wp2
  go_loopw [6, 13] (fun o i wr => ∃ (k : Nat) (out : List Nat), k ≤ ts.length ∧ i = .int .i64 (k : Int) ∧ out.length ≤ 258 * k ∧ ExpAt most ts k out ∧ o = .string (bs out) ∧ Below w.heap.size w wr) (fun _ i _ => ts.length - (intOf i).toNat)
  case atStart => exact ⟨0, [], by omega, rfl, by simp, expAt_start _ _, rfl, Below.refl _ _⟩
  case round =>
    obtain ⟨k, out, hk, rfl, ho, hE, rfl, hB⟩ := hrel
    have HE : Hid (ExpAt most ts k out) := hE
    have HB : Hid (Below w.heap.size w wr) := hB
    have hsz := hB.size
    have hss := bs_size2 out
    by_cases hlt : k < ts.length
    · obtain ⟨t, ht⟩ : ∃ t, ts[k]? = some t := ⟨_, List.getElem?_eq_getElem hlt⟩
      obtain ⟨g, rfl, hg, c0, c1, c2⟩ := HF.out k t ht
      rw [← hB.cell (p := ⟨g, k * 3, none⟩) hg] at c0
      rw [← hB.cell (p := ⟨g, k * 3 + 1, none⟩) hg] at c1
      rw [← hB.cell (p := ⟨g, k * 3 + 2, none⟩) hg] at c2
      have hki : (k : Int) < (ts.length : Int) := by omega
      have hki0 : (0 : Int) ≤ (k : Int) := by omega
      have HT : Hid (ts[k]? = some t) := ht
      have htb : t.b < 256 := hb8 t (List.mem_of_getElem? ht)
      clear hE hB ht
      have HBX : Hid (∀ c, Below w.heap.size w (wr.alloc (.cells c 36))) := fun c => HB.out.alloc hsz _
      obtain ⟨tb, tl, td⟩ := t
      simp only at c0 c1 c2 htb
      by_cases hl0 : tl = 0
      · subst hl0
        by_cases hd0 : td = 0
        · subst hd0
          have HT1 : Hid (isTok ⟨tb, 0, 0⟩ = true) := by unfold Hid isTok; simp
          have HW1 : Hid (wid ⟨tb, 0, 0⟩ = 1) := rfl
          by_cases hm : (out.length : Int) < most
          · have HE0 : Hid (errT out most ⟨tb, 0, 0⟩ = 0) := errT_mk HT1.out (by simp only; omega) (by rw [HW1.out]; omega)
            have hmn : ¬ most ≤ (out.length : Int) := by omega
            have hcv := conv_byte tb (wr.alloc (.cells #[.int .u8 (tb : Int), .int .i64 0, .int .i64 0] 36))
            rw [World.size_alloc] at hcv
            have hs1 : (bs [tb]).size = 1 := bs_size2 [tb]
            have HBS : Hid (bs out ++ bs [tb] = bs (out ++ [tb])) := bs_append2 _ _
            go_wp2
            go_roundw
            case rel => exact ⟨k + 1, out ++ [tb], by omega, by go_num, by rw [List.length_append]; simp; omega, expAt_step HE.out HT.out HE0.out, by rw [HBS.out], (HBX.out _).alloc (by rw [World.size_alloc]; omega) _⟩
            case measure => simp [intOf]; omega
          · have hmn : most ≤ (out.length : Int) := by omega
            have HE2 : Hid (errT out most ⟨tb, 0, 0⟩ = 2) := errT_big HT1.out (by simp only; omega) (by rw [HW1.out]; omega)
            have HER : Hid (expF most ts [] = ([], errT out most ⟨tb, 0, 0⟩)) := expAt_err HE.out HT.out (by rw [HE2.out]; decide)
            go_wp2
            go_ret2
            exact ⟨by rw [HER.out, HE2.out]; rfl, HBX.out _⟩
        · have hdi : (td == 0) = false := by simpa using hd0
          have hT0 : isTok ⟨tb, 0, td⟩ = false := by rw [isTok_zero rfl]; simpa using hd0
          by_cases hb0 : tb = 0
          · subst hb0
            have HE4 : Hid (errT out most ⟨0, 0, td⟩ = 4) := errT_form (.inl hT0)
            have HER : Hid (expF most ts [] = ([], errT out most ⟨0, 0, td⟩)) := expAt_err HE.out HT.out (by rw [HE4.out]; decide)
            clear hT0
            go_wp2
            go_ret2
            exact ⟨by rw [HER.out, HE4.out]; rfl, HBX.out _⟩
          · have hbi : ((tb : Int) != 0) = true := by simpa using hb0
            have HE4 : Hid (errT out most ⟨tb, 0, td⟩ = 4) := errT_form (.inl hT0)
            have HER : Hid (expF most ts [] = ([], errT out most ⟨tb, 0, td⟩)) := expAt_err HE.out HT.out (by rw [HE4.out]; decide)
            clear hT0
            go_wp2
            go_ret2
            exact ⟨by rw [HER.out, HE4.out]; rfl, HBX.out _⟩
      · have hli : (tl == 0) = false := by simpa using hl0
        by_cases hbad : (tb = 0 ∧ 3 ≤ tl ∧ tl ≤ 258 ∧ 1 ≤ td ∧ td ≤ 32768) ∧ td ≤ (out.length : Int)
        · obtain ⟨⟨rfl, h3, h4, h5, h6⟩, h7⟩ := hbad
          have HT1 : Hid (isTok ⟨0, tl, td⟩ = true) := isTok_mk rfl h3 h4 h5 h6
          have HW1 : Hid (wid ⟨0, tl, td⟩ = tl) := by unfold Hid wid; rw [if_pos (by simp only; omega)]
          obtain ⟨d, rfl⟩ : ∃ n : Nat, td = (n : Int) := ⟨td.toNat, by omega⟩
          obtain ⟨m, rfl⟩ : ∃ n : Nat, tl = (n : Int) := ⟨tl.toNat, by omega⟩
          have q1 : ¬ (m : Int) < 3 := by omega
          have q2 : ¬ (258 : Int) < (m : Int) := by omega
          have q3 : ¬ (d : Int) < 1 := by omega
          have q4 : ¬ (32768 : Int) < (d : Int) := by omega
          have q5 : ¬ (out.length : Int) < (d : Int) := by omega
          by_cases hm : (out.length : Int) + (m : Int) ≤ most
          · have HE0 : Hid (errT out most ⟨0, m, d⟩ = 0) := errT_mk HT1.out h7 (by rw [HW1.out]; omega)
            have HSY : Hid (sayT out ⟨0, m, d⟩ = sayN out d m) := by unfold Hid sayT; rw [if_neg hl0]; rfl
            have hmn : ¬ most < (out.length : Int) + (m : Int) := by omega
            have HMR : Hid (∀ j, bs (sayN out d j) ++ (bs (sayN out d j)).extract (out.length + j - d) (out.length + j - d + 1) = bs (sayN out d (j + 1))) := fun j => bs_more out d j (by omega) (by omega)
            go_wp2
            go_loop [6, 9] (fun s i => ∃ j : Nat, j ≤ m ∧ i = .int .i64 (j : Int) ∧ s = .string (bs (sayN out d j))) (fun _ i => m - (intOf i).toNat)
            case atStart => exact ⟨0, by omega, rfl, rfl⟩
            case round =>
              obtain ⟨j, hj, rfl, rfl⟩ := hrel
              have hsj : (bs (sayN out d j)).size = out.length + j := by rw [bs_size2, sayN_len]
              have HMj : Hid (_ = _) := HMR.out j
              have hji0 : (0 : Int) ≤ (j : Int) := by omega
              by_cases hjm : j < m
              · have hji : (j : Int) < (m : Int) := by omega
                have hix : ((out.length + j : Nat) : Int) - (d : Int) = ((out.length + j - d : Nat) : Int) := by omega
                generalize bs (sayN out d j) = S at *
                go_wp2
                go_round
                case rel => exact ⟨j + 1, by omega, by go_num, by rw [← HMj.out]⟩
                case measure => simp [intOf]; omega
              · obtain rfl : j = m := by omega
                have HLN : Hid ((sayN out d j).length = out.length + j) := sayN_len _ _ _
                go_wp2
                go_roundw
                case rel => exact ⟨k + 1, sayN out d j, by omega, by go_num, by rw [HLN.out]; omega, by rw [← HSY.out]; exact expAt_step HE.out HT.out HE0.out, rfl, HBX.out _⟩
                case measure => simp [intOf]; omega
          · have hmn : most < (out.length : Int) + (m : Int) := by omega
            have HE2 : Hid (errT out most ⟨0, m, d⟩ = 2) := errT_big HT1.out h7 (by rw [HW1.out]; omega)
            have HER : Hid (expF most ts [] = ([], errT out most ⟨0, m, d⟩)) := expAt_err HE.out HT.out (by rw [HE2.out]; decide)
            go_wp2
            go_ret2
            exact ⟨by rw [HER.out, HE2.out]; rfl, HBX.out _⟩
        · have HE4 : Hid (errT out most ⟨tb, tl, td⟩ = 4) := by
            refine errT_form ?_
            by_cases hh : tb = 0 ∧ 3 ≤ tl ∧ tl ≤ 258 ∧ 1 ≤ td ∧ td ≤ 32768
            · exact .inr (by simp only; omega)
            · exact .inl (isTok_false hl0 hh)
          have HER : Hid (expF most ts [] = ([], errT out most ⟨tb, tl, td⟩)) := expAt_err HE.out HT.out (by rw [HE4.out]; decide)
          clear HF HE HT
          by_cases p0 : tb = 0
          · have b0 : ((tb : Int) != 0) = false := by simpa using p0
            by_cases p1 : tl < 3
            · clear hbad
              go_wp2
              go_ret2
              exact ⟨by rw [HER.out, HE4.out]; rfl, HBX.out _⟩
            · by_cases p2 : 258 < tl
              · clear hbad
                go_wp2
                go_ret2
                exact ⟨by rw [HER.out, HE4.out]; rfl, HBX.out _⟩
              · by_cases p3 : td < 1
                · clear hbad
                  go_wp2
                  go_ret2
                  exact ⟨by rw [HER.out, HE4.out]; rfl, HBX.out _⟩
                · by_cases p4 : 32768 < td
                  · clear hbad
                    go_wp2
                    go_ret2
                    exact ⟨by rw [HER.out, HE4.out]; rfl, HBX.out _⟩
                  · have p5 : (out.length : Int) < td := by omega
                    clear hbad
                    go_wp2
                    go_ret2
                    exact ⟨by rw [HER.out, HE4.out]; rfl, HBX.out _⟩
          · have b0 : ((tb : Int) != 0) = true := by simpa using p0
            clear hbad
            go_wp2
            go_ret2
            exact ⟨by rw [HER.out, HE4.out]; rfl, HBX.out _⟩
    · have HEN : Hid (expF most ts [] = (out, 0)) := expAt_end hE (by omega)
      clear hE HE
      go_wp2
      go_ret2
      exact ⟨by rw [HEN.out]; rfl, hB⟩
end Go.Proofs.Ytdmnmclhfeoghaa
