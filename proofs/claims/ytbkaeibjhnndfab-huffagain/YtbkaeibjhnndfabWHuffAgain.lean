/- HuffAgain: the walk. -/
import Derived.Test.YtbkaeibjhnndfabAgainM
import Derived.Deep.QuietTactic
import Derived.BigQuiet
import Derived.Deep.DeepCutAuto
import Derived.Deep.RegionHeld
namespace Go.Proofs.Ytbkaeibjhnndfab
open Go.RowKit
set_option linter.unusedVariables false
set_option linter.unusedSimpArgs false

/-- A Sink stays where a row of integers grows. -/
theorem SinkAt.keptOwn {w w' : World} {g n : Nat} {L : List Bool} {v : Value} {xs : List Value} {o : Obj} (h : SinkAt w g L) (hO : w.ownsRow (g + 1) 3 1 v n xs) (hn : ¬ v = .slice none 0 0) (hg : (w.alloc o).grownBy w' v.ownBlock) : SinkAt w' g L := by
  rcases hO.2 with ⟨h', _⟩ | ⟨gb, cap, cur, rfl, hb, hh, _⟩
  · exact absurd h' hn
  · have hne : g ≠ gb := by omega
    refine (h.below ((Below.refl _ w).alloc (Nat.le_refl _) o)).keptRow (gb := gb) hg (c := cur) (ty := 3) ?_ (by decide) hne
    rw [heap_alloc_old _ _ (Array.getElem?_eq_some_iff.1 hh).1]; exact hh
theorem list_open {w : World} {B : Nat} {v : Value} {ls : List Nat} (hO : w.ownsRow B 3 1 v ls.length (ic (symZ ls))) (hn : ¬ v = .slice none 0 0) : ∃ gl cap, v = .slice (some ⟨gl, 0, none⟩) ls.length cap ∧ gl < w.heap.size ∧ ∀ m t : Nat, ls[m]? = some t → w.cell? ⟨gl, m, none⟩ = some (.int .i64 (t : Int)) := by
  obtain ⟨gl, cap, h1, h2, h3⟩ := IR.of hO hn
  rw [symZ_len] at h1 h3
  refine ⟨gl, cap, h1, h2, fun m t hm => ?_⟩
  rw [h3 m (List.getElem?_eq_some_iff.1 hm).1, symZ_at ls m t hm]
set_option maxRecDepth 100000 in
set_option maxHeartbeats 4000000 in
theorem lawHuffAgain_walk (a : Option Addr) (len cap : Nat) (zs : List Int) (a2 : Option Addr) (len2 cap2 : Nat) (zs2 : List Int) (w : World) (hR : IsRow .i64 w a len cap zs) (hR2 : IsRow .i64 w a2 len2 cap2 zs2) :
    Calls Try.prog 5 #[.slice a len cap, .slice a2 len2 cap2] w fun e w' => e = .returned (.bool true) ∧ Below w.heap.size w w' := by
  have hzS := (zero_of_info Try.zeroSnk).1
  obtain ⟨i0, hi0, hz0, hz1, hz2⟩ := info_parts Try.infoI
  have hfl : (fewZ len zs).length ≤ 400 := by unfold fewZ; rw [List.length_take]; omega
  have HFW : Hid (∀ W, Below w.heap.size w W → Calls Try.prog 8 #[.slice a len cap] W fun e w' => ∃ v, e = .returned v ∧ IR w' v (fewZ len zs) ∧ Below W.heap.size W w') := fun W hb => few4_any a len cap zs W (isrow_below hR hb)
  have HR2 : Hid (∀ W, Below w.heap.size w W → IsRow .i64 W a2 len2 cap2 zs2) := fun W hb => isrow_below hR2 hb
  have hlen2 : len2 ≤ 140737488351232 := by
    rcases hR2 with ⟨_, h, _⟩ | ⟨x, _, h, h2, _⟩
    · omega
    · omega
  clear hR hR2
  generalize fewZ len zs = ys at *
  go_enter Try.func5, Try.ntmps5
  go_wp2_with fail
  refine (HFW.out _ (Below.refl _ w)).mono ?_
  rintro e w1 ⟨v, rfl, hI, hB1⟩
  by_cases he : errN ys = 0
  · obtain ⟨h320, h15, hfit⟩ := errN_zero he
    have hA15 := h15.all
    go_wp2_with fail
    refine (codes_ok v ys _ hI he).mono ?_
    rintro e w2 ⟨rfl, hC2, hb2⟩
    have hB2 : Below w.heap.size w w2 := hB1.trans (hb2.mono hB1.size)
    have hgc : w1.heap.size < w2.heap.size := hC2.lt
    go_wp2_with fail
    refine (HFW.out _ hB2).mono ?_
    rintro e w3 ⟨v3, rfl, hI3, hb3⟩
    have hB3 : Below w.heap.size w w3 := hB2.trans (hb3.mono hB2.size)
    go_wp2_with fail
    refine (plant_ok v3 ys _ hI3 he).mono ?_
    rintro e w4 ⟨B, hBl, rfl, hP4, hb4⟩
    have hB4 : Below w.heap.size w w4 := hB3.trans (hb4.mono hB3.size)
    have hC4 := (hC2.since hb3).since hb4
    have hLE : (toN ys).length = ys.length := toN_len ys
    rw [← hLE] at hC4 hP4 ⊢
    rw [← hLE] at h320
    generalize toN ys = ns at *
    generalize w1.heap.size = gc at *
    have hgc4 : gc < w4.heap.size := hC4.lt
    have HC4 : Hid (CR w4 gc ns.length (cdOf ns) (ln ns)) := hC4
    have HP4 : Hid (Planted w4 B (B + 1) ns ns.length) := hP4
    have HB4 : Hid (Below w.heap.size w w4) := hB4
    have hsz4 := hB4.size
    have HA15 : Hid (all15 ns) := hA15
    have HFT : Hid (fitB ns = true) := hfit
    have HS0 : Hid (SinkAt ((w4.alloc (.cells snk0 55)).alloc (.cells #[] 3)) w4.heap.size []) := (sink_zero w4).below ((Below.refl _ _).alloc (Nat.le_refl _) _)
    have HO0 : Hid (((w4.alloc (.cells snk0 55)).alloc (.cells #[] 3)).ownsRow (w4.heap.size + 1) 3 1 (.slice (some ⟨w4.heap.size + 1, 0, none⟩) 0 0) 0 (ic (symZ []))) := by
      have := World.ownsRow_made (base := w4.heap.size + 1) (e := 3) (size := 1) (w4.alloc (.cells snk0 55)) #[] 0 (by rw [World.size_alloc]; omega) (by decide) rfl
      rw [World.size_alloc] at this
      exact this
    have HL0 : Hid (Below w4.heap.size w4 ((w4.alloc (.cells snk0 55)).alloc (.cells #[] 3))) := ((Below.refl _ w4).alloc (Nat.le_refl _) _).alloc (by rw [World.size_alloc]; omega) _
    clear hC2 hC4 hP4 hB1 hB2 hB3 hB4 hb2 hb3 hb4 hI hI3 HFW hA15 hfit h15 he hfl hLE
    go_wp2
    generalize World.alloc (World.alloc w4 _) _ = W5 at *
    go_loopw [10, 11] (fun l i wr => ∃ (k : Nat) (ls : List Nat), k ≤ len2 ∧ k ≤ 100 ∧ ls.length ≤ k ∧ (∀ t ∈ ls, Used ns ns.length t) ∧ i = .int .i64 (k : Int) ∧ wr.ownsRow (w4.heap.size + 1) 3 1 l ls.length (ic (symZ ls)) ∧ ¬ l = .slice none 0 0 ∧ SinkAt wr w4.heap.size (bitsOf ns ls) ∧ Below w4.heap.size w4 wr) (fun _ i _ => 100 - (intOf i).toNat)
    case atStart => exact ⟨0, [], by omega, by omega, by simp, by simp, rfl, HO0.out, by simp, HS0.out, HL0.out⟩
    case round =>
      clear HS0 HO0 HL0
      obtain ⟨k, ls, hk2, hk100, hlk, hus, rfl, hO, hnn, hS, hB⟩ := hrel
      have HUS : Hid (∀ t ∈ ls, Used ns ns.length t) := hus
      have hsL := bitsOf_le ns HA15.out ls
      clear hus
      by_cases hlt : k < len2 ∧ k < 100
      · obtain ⟨hl2, hl100⟩ := hlt
        have hki : (k : Int) < (len2 : Int) := by omega
        have hki0 : (0 : Int) ≤ (k : Int) := by omega
        have hki1 : (k : Int) < 100 := by omega
        obtain ⟨⟨b, off, rfl, hcz, hbz⟩, z1, z2⟩ := introw_at (HR2.out wr (HB4.out.trans (hB.mono hsz4))) hl2
        have hC := HC4.out.since hB
        have HO : Hid (wr.ownsRow (w4.heap.size + 1) 3 1 _ ls.length (ic (symZ ls))) := hO
        have HNN : Hid (¬ _ = Value.slice none 0 0) := hnn
        have HS : Hid (SinkAt wr w4.heap.size (bitsOf ns ls)) := hS
        have HB : Hid (Below w4.heap.size w4 wr) := hB
        clear hO hnn hS hB
        generalize zs2.getD k 0 = z at *
        by_cases hz0' : z < 0
        · clear hC
          go_wp2
          go_roundw
          case rel => exact ⟨k + 1, ls, by omega, by omega, by omega, HUS.out, by go_num, HO.out, HNN.out, HS.out, HB.out⟩
          case measure => simp [intOf]; omega
        · by_cases hzn : (ns.length : Int) ≤ z
          · clear hC
            go_wp2
            go_roundw
            case rel => exact ⟨k + 1, ls, by omega, by omega, by omega, HUS.out, by go_num, HO.out, HNN.out, HS.out, HB.out⟩
            case measure => simp [intOf]; omega
          · obtain ⟨t, rfl⟩ : ∃ t : Nat, z = (t : Int) := ⟨z.toNat, by omega⟩
            have htn : t < ns.length := by omega
            have hti : (t : Int) < (ns.length : Int) := by omega
            have hti0 : (0 : Int) ≤ (t : Int) := by omega
            have ce : wr.cell? ⟨gc, t * 2, none⟩ = some (.int .u32 (cdOf ns t : Int)) := by rw [hC.cell (i := t * 2) (by omega), codeF_even]
            have co : wr.cell? ⟨gc, t * 2 + 1, none⟩ = some (.int .i64 (ln ns t : Int)) := by rw [hC.cell (i := t * 2 + 1) (by omega), codeF_odd]
            clear hC
            by_cases hl0 : ln ns t = 0
            · rw [hl0] at co
              go_wp2
              go_roundw
              case rel => exact ⟨k + 1, ls, by omega, by omega, by omega, HUS.out, by go_num, HO.out, HNN.out, HS.out, HB.out⟩
              case measure => simp [intOf]; omega
            · have hlp : 0 < ln ns t := by omega
              have hl15 := HA15.out.at t
              have hcd := cd_lt ns HA15.out HFT.out t htn hlp
              rw [← cdOf_at ns t hlp] at hcd
              have h32 : 2 ^ ln ns t ≤ 2 ^ 15 := Nat.pow_le_pow_right (by decide) hl15
              have hx : cdOf ns t < 4294967296 := by omega
              have HTU : Hid (∀ W, SinkAt W w4.heap.size (bitsOf ns ls) → Calls Try.prog 25 #[.pointer (some ⟨w4.heap.size, 0, none⟩), .int .u32 (cdOf ns t : Int), .int .i64 (ln ns t : Int)] W fun e w' => e = .returned (.tuple #[]) ∧ SinkAt w' w4.heap.size (bitsOf ns (ls ++ [t])) ∧ W.grownBy w' (some w4.heap.size)) := fun W h => by
                have := wturn_any w4.heap.size (bitsOf ns ls) (cdOf ns t) (ln ns t : Int) W h hx (by omega) (by omega)
                rw [near_small _ (by omega)] at this
                rw [bitsOf_append, bitsOf_one]; exact this
              have HU2 : Hid (∀ q ∈ ls ++ [t], Used ns ns.length q) := fun q hq => by
                rcases List.mem_append.1 hq with h | h
                · exact HUS.out q h
                · simp at h; subst h; exact ⟨htn, hlp⟩
              have hlpi : (0 : Int) < (ln ns t : Int) := by omega
              clear hcd h32
              generalize cdOf ns t = X at *
              generalize ln ns t = M at *
              have hgcne : gc ≠ w4.heap.size := by omega
              go_wp2
              go_region_held (fun w' => w'.cell? ⟨gc, t * 2, none⟩ = some (.int .u32 (X : Int)) ∧ w'.cell? ⟨gc, t * 2 + 1, none⟩ = some (.int .i64 (M : Int))) (first | exact ⟨ce, co⟩ | assumption | exact ⟨hG7.cell ce (fun e => hgcne (Option.some.inj e)), hG7.cell co (fun e => hgcne (Option.some.inj e))⟩)
                (first | (go_at_call 25; refine (HTU.out _ HS.out.drew).mono ?_; rintro e w7 ⟨rfl, hS7, hG7⟩))
              have hO7 := HO.out.drew.kept hG7 (.inr (fun e => by have := (HO.out.lt _ e).1; omega))
              have hB7 : Below w4.heap.size w4 w7 := grown_below HB.out.drew hG7 HB.out.size (Nat.le_refl _)
              have HS7 : Hid (SinkAt w7 w4.heap.size (bitsOf ns (ls ++ [t]))) := hS7
              have HO7 : Hid (w7.ownsRow (w4.heap.size + 1) 3 1 _ ls.length (ic (symZ ls))) := hO7
              have HB7 : Hid (Below w4.heap.size w4 w7) := hB7
              clear hS7 hG7 hO7 hB7 ce co hcz
              have hsz7 := HB7.out.size
              go_wp2_with (at_builtin; refine wpList_append_own _ rfl _ _ 22 rfl (w4.heap.size + 1) 3 i0 (.int .i64 0) 1 8 Try.underlying22 hi0 hz0 hz1 hz2 rfl (by decide) _ _ _ rfl (HO7.out.alloc _) ⟨w7.heap.size, 0, none⟩ 1 1 [.int .i64 (t : Int)] rfl rfl (cell_one_new _ _ _) ?c2 ?c3 ?c4 ?c5 ?_)
              case c2 => intro y hy; simp at hy; subst hy; rfl
              case c3 => unfold maxLen; omega
              case c4 => omega
              case c5 => rw [World.size_alloc]; omega
              intro v8 w8 hown hg hnil
              have hne8 : ¬ v8 = .slice none 0 0 := hnil
              have HO8 : Hid (w8.ownsRow (w4.heap.size + 1) 3 1 v8 (ls ++ [t]).length (ic (symZ (ls ++ [t])))) := by unfold Hid; rw [List.length_append, ic_snoc]; exact hown
              have HB8 : Hid (Below w4.heap.size w4 w8) := (HB7.out.alloc hsz7 _).grown hg (by rw [World.size_alloc]; omega) (fun q hq => by have := (HO7.out.lt q hq).1; omega)
              have HS8 : Hid (SinkAt w8 w4.heap.size (bitsOf ns (ls ++ [t]))) := HS7.out.keptOwn HO7.out HNN.out hg
              clear hown hg hnil HO7 HS7 HB7
              go_wp2
              go_roundw
              case rel => exact ⟨k + 1, ls ++ [t], by omega, by omega, by rw [List.length_append]; simp; omega, HU2.out, by go_num, HO8.out, hne8, HS8.out, HB8.out⟩
              case measure => simp [intOf]; omega
      · obtain ⟨gl, capl, rfl, hgl, hcl⟩ := list_open hO hnn
        have HCL : Hid (∀ m t : Nat, ls[m]? = some t → wr.cell? ⟨gl, m, none⟩ = some (.int .i64 (t : Int))) := hcl
        have HP : Hid (Planted wr B (B + 1) ns ns.length) := HP4.out.kept hB
        have HS : Hid (SinkAt wr w4.heap.size (bitsOf ns ls)) := hS
        have HBw : Hid (Below w.heap.size w wr) := HB4.out.trans (hB.mono hsz4)
        clear hO hnn hS hB hcl
        have hcase : (len2 ≤ k) ∨ (k < len2 ∧ k = 100) := by omega
        rcases hcase with hc1 | ⟨hc1, rfl⟩
        all_goals
          go_wp2_with fail
          refine (all_any w4.heap.size (bitsOf ns ls) _ HS.out (by omega)).mono ?_
          rintro e w9 ⟨rfl, hb9⟩
          go_wp2_with fail
          refine (srcOf_any (packS (bitsOf ns ls)) _).mono ?_
          rintro e w10 ⟨gx, rfl, hX, hgx, hb10⟩
          have HS9 : Hid (SinkAt w9 w4.heap.size (bitsOf ns ls)) := HS.out.below hb9
          have HP9 : Hid (Planted w9 B (B + 1) ns ns.length) := HP.out.kept hb9
          have HC9 : Hid (∀ m t : Nat, ls[m]? = some t → w9.cell? ⟨gl, m, none⟩ = some (.int .i64 (t : Int))) := fun m t hm => by rw [hb9.cell (p := ⟨gl, m, none⟩) hgl]; exact HCL.out m t hm
          have HB9 : Hid (Below w.heap.size w w9) := HBw.out.trans (hb9.mono HBw.out.size)
          have hgl9 : gl < w9.heap.size := Nat.lt_of_lt_of_le hgl hb9.size
          have hss : (packS (bitsOf ns ls)).size = ((bitsOf ns ls).length + 7) / 8 := packS_size _
          have HX : Hid (SrcAt w10 gx (packS (bitsOf ns ls)) 0) := hX
          have HB10 : Hid (Below w9.heap.size w9 w10) := hb10
          clear HS HP HCL HBw hb9 hb10 hX
          go_wp2
          go_loopw [105] (fun i wi => ∃ m : Nat, m ≤ ls.length ∧ i = .int .i64 (m : Int) ∧ SrcAt wi gx (packS (bitsOf ns ls)) (bitsOf ns (ls.take m)).length ∧ Below w9.heap.size w9 wi) (fun i _ => ls.length - (intOf i).toNat)
          case atStart => exact ⟨0, by omega, rfl, HX.out, HB10.out⟩
          case round =>
            clear HX HB10
            obtain ⟨m, hm, rfl, hX, hB⟩ := hrel
            by_cases hml : m < ls.length
            · obtain ⟨t, ht⟩ : ∃ t, ls[m]? = some t := ⟨_, List.getElem?_eq_getElem hml⟩
              obtain ⟨c1, c2, c3⟩ := there_code ns ls m t ht
              have hct : wr.cell? ⟨gl, m, none⟩ = some (.int .i64 (t : Int)) := by rw [hB.cell (p := ⟨gl, m, none⟩) hgl9]; exact HC9.out m t ht
              have hut := HUS.out t (List.mem_of_getElem? ht)
              have hmi : (m : Int) < (ls.length : Int) := by omega
              have hmi0 : (0 : Int) ≤ (m : Int) := by omega
              have HNX : Hid (Calls _ _ _ _ _) := next_any ns HA15.out h320 B (B + 1) gx (packS (bitsOf ns ls)) _ wr (HP9.out.kept hB) hX (by omega) (by omega)
              have HBi : Hid (Below w9.heap.size w9 wr) := hB
              clear hX hB
              go_wp2_with fail
              refine (Hid.out HNX : Calls _ _ _ _ _).mono ?_
              rintro e w11 ⟨j, y, er, rfl, hN, hX11, hG11⟩
              obtain ⟨rfl, rfl, hj⟩ := next_code ns HA15.out HFT.out _ _ j t y er hut c1 (by omega) hN
              have hX12 : SrcAt w11 gx (packS (bitsOf ns ls)) (bitsOf ns (ls.take (m + 1))).length := by
                rw [c3, List.length_append, codeS_len, ← hj, ← Nat.add_assoc]; exact hX11
              have HX12 : Hid (SrcAt w11 gx (packS (bitsOf ns ls)) (bitsOf ns (ls.take (m + 1))).length) := hX12
              have HB12 : Hid (Below w9.heap.size w9 w11) := grown_below HBi.out hG11 HBi.out.size hgx
              clear HNX hN hX11 hG11 hX12 c1 c2 c3 HBi hct
              go_wp2
              go_roundw
              case rel => exact ⟨m + 1, by omega, by go_num, HX12.out, HB12.out⟩
              case measure => simp [intOf]; omega
            · obtain rfl : m = ls.length := by omega
              rw [List.take_length] at hX
              have hBw := HB9.out.trans (hB.mono HB9.out.size)
              have hS := HS9.out.below hB
              go_wp2_with fail
              refine (awake4_any _).mono ?_
              rintro e w12 ⟨rfl, hb12⟩
              have hB12 := hBw.trans (hb12.mono hBw.size)
              go_wp2_with fail
              refine (place_any gx _ _ _ (hX.below hb12)).mono ?_
              rintro e w13 ⟨rfl, rfl⟩
              go_wp2_with fail
              refine (count_any _ _ _ (hS.below hb12)).mono ?_
              rintro e w14 ⟨rfl, rfl⟩
              clear hX hS hb12 hBw hB
              generalize (bitsOf ns ls).length = LL at *
              go_wp2
              go_ret
              exact ⟨rfl, hB12⟩
  · have hei : ((errN ys : Int) != 0) = true := by simp; omega
    go_wp2_with fail
    refine (codes_bad v ys _ hI hfl he).mono ?_
    rintro e w2 ⟨rfl, rfl⟩
    go_wp2_with fail
    refine (HFW.out _ hB1).mono ?_
    rintro e w3 ⟨v3, rfl, hI3, hb3⟩
    have hB3 : Below w.heap.size w w3 := hB1.trans (hb3.mono hB1.size)
    go_wp2_with fail
    refine (plant_bad v3 ys _ hI3 hfl he).mono ?_
    rintro e w4 ⟨rfl, rfl⟩
    generalize errN ys = E at *
    go_wp2_with fail
    refine (awake4_any _).mono ?_
    rintro e w5 ⟨rfl, hb5⟩
    have hB5 := hB3.trans (hb5.mono hB3.size)
    clear hB1 hB3 hb3 hb5 hI hI3
    go_wp2
    go_ret
    exact ⟨rfl, hB5⟩
end Go.Proofs.Ytbkaeibjhnndfab
