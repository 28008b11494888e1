/- Contract of the document's Inflate. -/
import Derived.Test.YthkppipdflmekaaQRBk
import Derived.Test.YthkppipdflmekaaQInfI
namespace Go.Proofs.Ythkppipdflmekaa
open Go.RowKit
set_option linter.unusedVariables false
set_option linter.unusedSimpArgs false

theorem expF_cons {M : Int} {t : Tok} {ts : List Tok} {O X : List Nat} (h : expF M (t :: ts) O = (X, 0)) : errT O M t = 0 ∧ expF M ts (sayT O t) = (X, 0) := by
  rw [expF] at h
  by_cases e : errT O M t = 0
  · rw [if_pos e] at h; exact ⟨e, h⟩
  · rw [if_neg e] at h
    simp only [Prod.mk.injEq] at h
    exact absurd h.2 e
theorem expF_grow {M : Int} : ∀ (ts : List Tok) (O X : List Nat), expF M ts O = (X, 0) → O.length + ts.length ≤ X.length
  | [], O, X, h => by simp only [expF, Prod.mk.injEq, and_true] at h; subst h; exact Nat.le_refl _
  | t :: ts, O, X, h => by
    obtain ⟨h1, h2⟩ := expF_cons h
    have := expF_grow ts _ _ h2
    have h3 := sayT_len (out := O) (errT_zero h1).1
    have := wid_pos t
    rw [List.length_cons]
    omega
theorem expF_bytes {M : Int} {ts : List Tok} {X : List Nat} : ∀ (bl : List Nat) (O : List Nat), expF M (bl.map (fun c => (⟨c, 0, 0⟩ : Tok)) ++ ts) O = (X, 0) → expF M ts (O ++ bl) = (X, 0)
  | [], O, h => by simpa using h
  | c :: bl, O, h => by
    rw [List.map_cons, List.cons_append] at h
    obtain ⟨h1, h2⟩ := expF_cons h
    have h3 : sayT O ⟨c, 0, 0⟩ = O ++ [c] := by unfold sayT; rw [if_pos rfl]
    rw [h3] at h2
    have := expF_bytes bl _ h2
    rwa [List.append_assoc] at this
theorem conv_byteI (x : Nat) (W : World) : (convert 71 9 (.slice (some ⟨W.heap.size, 0, none⟩) 1 1)).run Try.prog (W.alloc (.cells #[.int .u8 x] 5)) = .ok (.string (bs [x])) (W.alloc (.cells #[.int .u8 x] 5)) :=
  conv_bs (base := W.heap.size) (n := 1) (l := [x]) Try.underlying71 Try.underlying5 Try.underlying9 (World.ownsRow_lit W #[.int .u8 x] 1 (Nat.le_refl _) (by decide) rfl)
theorem bs_moreI (out : List Nat) (d k : Nat) (h1 : 1 ≤ d) (h2 : d ≤ out.length) : bs (sayN out d k) ++ (bs (sayN out d k)).extract (out.length + k - d) (out.length + k - d + 1) = bs (sayN out d (k + 1)) := by
  have hel := sayN_at out d k h1 h2
  have e : (bs (sayN out d k)).extract (out.length + k - d) (out.length + k - d + 1) = bs [(sayN out d k).getD ((sayN out d k).length - d) 0] := by
    apply ba_ext
    rw [extract_data, bs_data2, bs_data2, show out.length + k - d + 1 - (out.length + k - d) = 1 by omega]
    apply List.ext_getElem?
    intro i
    rw [List.getElem?_take]
    match i with
    | 0 => rw [if_pos (by omega), List.getElem?_drop, Nat.add_zero, List.getElem?_map, hel]; rfl
    | i + 1 => rw [if_neg (by omega)]; rfl
  rw [e, bs_append2]; rfl
/-- What is left to be told behind k blocks. -/
def lefJ (l : List Item) (k : Nat) : List Tok := jkP ((l.drop k).map Prod.fst)
theorem lefJ_at {l : List Item} {k : Nat} {x : Item} (h : l[k]? = some x) : lefJ l k = (x.1.bytes.map fun c => (⟨c, 0, 0⟩ : Tok)) ++ (x.1.toks ++ lefJ l (k + 1)) := by
  unfold lefJ jkP
  obtain ⟨hk, e⟩ := List.getElem?_eq_some_iff.1 h
  rw [List.drop_eq_getElem_cons hk, e, List.map_cons, List.flatMap_cons]
  unfold bkP
  rw [List.append_assoc]
set_option maxRecDepth 100000 in
set_option maxHeartbeats 2000000 in
theorem rblocks_bad (s : ByteArray) (a most : Int) (w : World) (h : a < 0 ∨ (s.size : Int) < a ∨ most < 0 ∨ 65536 < most) :
    Calls Try.prog 6 #[.string s, .int .i64 a, .int .i64 most] w fun e w' => e = .returned (.tuple #[.slice none 0 0, .int .i64 0, .int .i64 1]) ∧ w' = w := by
  by_cases h1 : a < 0
  · go_enter Try.func6, Try.ntmps6
    go_wp2
    exact bodyPost_ret (v := .tuple #[.slice none 0 0, .int .i64 0, .int .i64 1]) (by simp [results, Try.results6, go_sem]) rfl ⟨rfl, rfl⟩
  · by_cases h2 : (s.size : Int) < a
    · go_enter Try.func6, Try.ntmps6
      go_wp2
      exact bodyPost_ret (v := .tuple #[.slice none 0 0, .int .i64 0, .int .i64 1]) (by simp [results, Try.results6, go_sem]) rfl ⟨rfl, rfl⟩
    · by_cases h3 : most < 0
      · go_enter Try.func6, Try.ntmps6
        go_wp2
        exact bodyPost_ret (v := .tuple #[.slice none 0 0, .int .i64 0, .int .i64 1]) (by simp [results, Try.results6, go_sem]) rfl ⟨rfl, rfl⟩
      · have h4 : 65536 < most := by omega
        clear h
        go_enter Try.func6, Try.ntmps6
        go_wp2
        exact bodyPost_ret (v := .tuple #[.slice none 0 0, .int .i64 0, .int .i64 1]) (by simp [results, Try.results6, go_sem]) rfl ⟨rfl, rfl⟩
set_option maxRecDepth 100000 in
set_option maxHeartbeats 2000000 in
theorem rinflate_bad (s : ByteArray) (a most : Int) (w : World) (h : a < 0 ∨ (s.size : Int) < a ∨ most < 0 ∨ 65536 < most) :
    Calls Try.prog 8 #[.string s, .int .i64 a, .int .i64 most] w fun e w' => e = .returned (.tuple #[.string ⟨#[]⟩, .int .i64 0, .int .i64 1]) ∧ w' = w := by
  have HB : Hid (Calls _ _ _ _ _) := rblocks_bad s a most w h
  clear h
  go_enter Try.func8, Try.ntmps8
  go_wp2_with fail
  refine (Hid.out HB : Calls _ _ _ _ _).mono ?_
  rintro e w1 ⟨rfl, hw1⟩
  obtain rfl : w = w1 := hw1.symm
  clear hw1 HB
  go_wp2
  exact bodyPost_ret (v := .tuple #[.string ⟨#[]⟩, .int .i64 0, .int .i64 1]) (by simp [results, Try.results8, go_sem]) rfl ⟨rfl, rfl⟩
set_option maxRecDepth 100000 in
set_option maxHeartbeats 8000000 in
theorem rinflate_any (s S : ByteArray) (a most : Nat) (r : Except Nat (List Blk × Nat)) (w : World) (ha : a ≤ s.size) (hm : most ≤ 65536) (hs : s.size ≤ 10000) (hS : S = s.extract a s.size) (h : blksF (bF8 S) (8 * S.size) most (8 * S.size + 1) 0 0 [] = r) :
    Calls Try.prog 8 #[.string s, .int .i64 (a : Int), .int .i64 (most : Int)] w fun e w' => (∃ l q, r = .ok (l, q) ∧ e = .returned (.tuple #[.string (bs (expF 9223372036854775807 (jkP l) []).1), .int .i64 (((q + 7) / 8 : Nat) : Int), .int .i64 0]) ∧ q ≤ 8 * S.size ∧ Below w.heap.size w w') ∨ (∃ er, r = .error er ∧ er ≠ 0 ∧ e = .returned (.tuple #[.string ⟨#[]⟩, .int .i64 0, .int .i64 (er : Int)]) ∧ Below w.heap.size w w') := by
  have HBL : Hid (Calls _ _ _ _ _) := rblocks_any s S a most r w ha hm hs hS h
  have HH : Hid (blksF (bF8 S) (8 * S.size) most (8 * S.size + 1) 0 0 [] = r) := h
  have hSs : S.size ≤ 10000 := by rw [hS, ByteArray.size_extract]; omega
  clear h hS
  go_enter Try.func8, Try.ntmps8
  go_wp2_with fail
  refine (Hid.out HBL : Calls _ _ _ _ _).mono ?_
  clear HBL
  rintro e w1 (⟨l, q, v, hr, rfl, hO, hq, hll, hB⟩ | ⟨er, hr, her, rfl, hB⟩)
  · have HR : Hid (r = .ok (l.map Prod.fst, q)) := hr
    obtain ⟨o, new, hnew, hsay, _, hom, _⟩ := blksF_says (by omega) _ _ _ _ _ _ (Nat.zero_le _) (HH.out.trans hr)
    rw [List.nil_append] at hnew
    subst hnew
    obtain ⟨X, hX, hXl⟩ := hsay [] rfl
    have hXs : X.length ≤ 65536 := by omega
    have HX : Hid (expF 9223372036854775807 (jkP (l.map Prod.fst)) [] = (X, 0)) := hX
    obtain ⟨av, cv, rfl⟩ := own_slice hO.1
    have HBR : Hid (BRowR w1 w.heap.size (.slice av l.length cv) l) := hO
    have HB : Hid (Below w.heap.size w w1) := hB
    have hBs := hB.size
    obtain ⟨Q8, hQ8⟩ : ∃ Q8, Q8 = (q + 7) / 8 := ⟨_, rfl⟩
    rw [← hQ8]
    have HQ8 : Hid (Q8 = (q + 7) / 8) := hQ8
    clear hr hO hB hsay hX hXl hom HH hQ8
    go_wp2
    go_loopw [12, 31] (fun t i wr => ∃ (k : Nat) (O : List Nat), k ≤ l.length ∧ i = .int .i64 (k : Int) ∧ t = .string (bs O) ∧ expF 9223372036854775807 (lefJ l k) O = (X, 0) ∧ Below w1.heap.size w1 wr) (fun _ i _ => l.length - (intOf i).toNat)
    case atStart => exact ⟨0, [], by omega, rfl, rfl, HX.out, Below.refl _ _⟩
    case round =>
      obtain ⟨k, O, hk, rfl, rfl, hE, hBw⟩ := hrel
      by_cases hlt : k < l.length
      · obtain ⟨⟨b, t, tv⟩, hx⟩ : ∃ x, l[k]? = some x := ⟨_, List.getElem?_eq_getElem hlt⟩
        obtain ⟨hbr, hit⟩ := HBR.out
        have hitem := hit _ (List.mem_of_getElem? hx)
        obtain ⟨hby, hto⟩ := hitem
        simp only at hby hto
        obtain ⟨ta, tc, rfl⟩ := own_slice hto
        obtain ⟨g, cap, hform, hgB, hcap, hgs⟩ := own_frm0 hbr (by omega)
        simp only [Value.slice.injEq, true_and] at hform
        obtain ⟨rfl, rfl⟩ := hform
        obtain ⟨c0, c1, c2⟩ := bcs_at l k _ hx
        rw [← hbr.cellAt (k * 3) (by omega), ← hBw.cell (p := ⟨g, k * 3, none⟩) hgs] at c0
        rw [← hbr.cellAt (k * 3 + 1) (by omega), ← hBw.cell (p := ⟨g, k * 3 + 1, none⟩) hgs] at c1
        rw [← hbr.cellAt (k * 3 + 2) (by omega), ← hBw.cell (p := ⟨g, k * 3 + 2, none⟩) hgs] at c2
        simp only at c0 c1 c2
        rw [lefJ_at hx] at hE
        simp only at hE
        have hE2 := expF_bytes b.bytes O hE
        have hgr := expF_grow _ _ _ hE2
        rw [List.length_append, List.length_append] at hgr
        have hts : t.size = b.bytes.length := by rw [← hby, ← nb_len]; rfl
        have htb : t = bs b.bytes := by rw [← hby]; exact (bs_nb t).symm
        have HAP : Hid (bs O ++ t = bs (O ++ b.bytes)) := by unfold Hid; rw [htb, bs_append2]
        have hso := bs_size2 O
        have hsz : ¬ 9223372036854775807 < (bs O).size + t.size := by omega
        have HE2 : Hid (expF 9223372036854775807 (b.toks ++ lefJ l (k + 1)) (O ++ b.bytes) = (X, 0)) := hE2
        have hki : (k : Int) < (l.length : Int) := by omega
        have hki0 : (0 : Int) ≤ (k : Int) := by omega
        have HTR : Hid (TR w1 (.slice ta b.toks.length tc) b.toks) := TR.own hto
        have hwr := hBw.size
        have HB0 : Hid (Below w1.heap.size w1 (wr.alloc (.cells #[.int .i64 (b.kind : Int), .string t, .slice ta b.toks.length tc] 40))) := hBw.alloc hwr _
        have hntb : b.toks.length ≤ 65536 := by omega
        clear hbr hit hby hto hx hBw hE hE2 hgr hts htb
        go_wp2
        rw [HAP.out]
        clear c0 c1 c2
        generalize World.alloc wr _ = W0 at *
        generalize wr.heap.size = gb at *
        obtain ⟨nt, hnt⟩ : ∃ nt, nt = b.toks.length := ⟨_, rfl⟩
        have HNT : Hid (nt = b.toks.length) := hnt
        have HF : Hid (∀ i y, b.toks[i]? = some y → ∃ g, ta = some ⟨g, 0, none⟩ ∧ g < w1.heap.size ∧ w1.cell? ⟨g, i * 3, none⟩ = some (.int .u8 (y.b : Int)) ∧ w1.cell? ⟨g, i * 3 + 1, none⟩ = some (.int .i64 y.l) ∧ w1.cell? ⟨g, i * 3 + 2, none⟩ = some (.int .i64 y.d)) := by
          obtain ⟨a', cap', hv, hf⟩ := HTR.out.form
          simp only [Value.slice.injEq, true_and] at hv
          obtain ⟨rfl, rfl⟩ := hv
          exact hf
        rw [← hnt] at hntb
        rw [← hnt]
        clear HTR hnt HAP
        go_loopw [12, 42] (fun t i wq => ∃ (j : Nat) (P : List Nat), j ≤ nt ∧ i = .int .i64 (j : Int) ∧ t = .string (bs P) ∧ expF 9223372036854775807 (b.toks.drop j ++ lefJ l (k + 1)) P = (X, 0) ∧ Below w1.heap.size w1 wq) (fun _ i _ => nt - (intOf i).toNat)
        case atStart => exact ⟨0, _, by omega, rfl, rfl, HE2.out, HB0.out⟩
        case round =>
          clear HE2 HB0
          obtain ⟨j, P, hj, rfl, rfl, hE, hBw⟩ := hrel
          have hwr := hBw.size
          by_cases hjt : j < nt
          · obtain ⟨y, hy⟩ : ∃ y, b.toks[j]? = some y := ⟨_, List.getElem?_eq_getElem (by rw [← HNT.out]; exact hjt)⟩
            obtain ⟨g2, rfl, hg2, c0, c1, c2⟩ := HF.out j y hy
            rw [← hBw.cell (p := ⟨g2, j * 3, none⟩) hg2] at c0
            rw [← hBw.cell (p := ⟨g2, j * 3 + 1, none⟩) hg2] at c1
            rw [← hBw.cell (p := ⟨g2, j * 3 + 2, none⟩) hg2] at c2
            rw [drop_at hy, List.cons_append] at hE
            obtain ⟨he0, hE2⟩ := expF_cons hE
            obtain ⟨hit, hyd, hyw⟩ := errT_zero he0
            have hgr := expF_grow _ _ _ hE2
            have HE3 : Hid (expF 9223372036854775807 (b.toks.drop (j + 1) ++ lefJ l (k + 1)) (sayT P y) = (X, 0)) := hE2
            have hjj : (j : Int) < (nt : Int) := by omega
            have hjj0 : (0 : Int) ≤ (j : Int) := by omega
            have HBX : Hid (∀ c, Below w1.heap.size w1 (wr.alloc (.cells c 42))) := fun c => hBw.alloc hwr _
            obtain ⟨tb, tl, td⟩ := y
            simp only at c0 c1 c2 hyd hyw
            have hps := bs_size2 P
            clear hE hE2 he0 hBw hy
            by_cases hl0 : tl = 0
            · subst hl0
              have HSY : Hid (sayT P ⟨tb, 0, td⟩ = P ++ [tb]) := by unfold Hid sayT; rw [if_pos rfl]
              rw [HSY.out, List.length_append] at hgr
              simp only [List.length_singleton] at hgr
              have hcv := conv_byteI tb (wr.alloc (.cells #[.int .u8 (tb : Int), .int .i64 0, .int .i64 td] 42))
              rw [World.size_alloc] at hcv
              have hs1 : (bs [tb]).size = 1 := bs_size2 [tb]
              have HBS : Hid (bs P ++ bs [tb] = bs (P ++ [tb])) := bs_append2 _ _
              clear hit hyd hyw
              go_wp2
              rw [HBS.out]
              go_loop [12, 17] (fun s i => s = .string (bs (P ++ [tb])) ∧ i = .int .i64 0) (fun _ _ => 0)
              case atStart => exact ⟨rfl, rfl⟩
              case round =>
                obtain ⟨rfl, rfl⟩ := hrel
                go_wp2
                go_roundw
                case rel => exact ⟨j + 1, P ++ [tb], by omega, by go_num, rfl, by rw [← HSY.out]; exact HE3.out, (HBX.out _).alloc (by rw [World.size_alloc]; omega) _⟩
                case measure => simp [intOf]; omega
            · have hrep := isTok_rep hl0 hit
              simp only at hrep
              obtain ⟨rfl, h3, h4, h5, h6⟩ := hrep
              obtain ⟨d, rfl⟩ : ∃ n : Nat, td = (n : Int) := ⟨td.toNat, by omega⟩
              obtain ⟨m, rfl⟩ : ∃ n : Nat, tl = (n : Int) := ⟨tl.toNat, by omega⟩
              have hli : ((m : Int) == 0) = false := by simpa using hl0
              have HSY : Hid (sayT P ⟨0, m, d⟩ = sayN P d m) := by unfold Hid sayT; rw [if_neg hl0]; rfl
              rw [HSY.out, sayN_len] at hgr
              have HMR : Hid (∀ j, bs (sayN P d j) ++ (bs (sayN P d j)).extract (P.length + j - d) (P.length + j - d + 1) = bs (sayN P d (j + 1))) := fun j => bs_moreI P d j (by omega) (by omega)
              clear hit hyw
              go_wp2
              go_loop [12, 17] (fun s i => ∃ z : Nat, z ≤ m ∧ i = .int .i64 (z : Int) ∧ s = .string (bs (sayN P d z))) (fun _ i => m - (intOf i).toNat)
              case atStart => exact ⟨0, by omega, rfl, rfl⟩
              case round =>
                obtain ⟨z, hz, rfl, rfl⟩ := hrel
                have hsz : (bs (sayN P d z)).size = P.length + z := by rw [bs_size2, sayN_len]
                have HMz : Hid (_ = _) := HMR.out z
                have hzi0 : (0 : Int) ≤ (z : Int) := by omega
                by_cases hzm : z < m
                · have hzi : (z : Int) < (m : Int) := by omega
                  have hix : ((P.length + z : Nat) : Int) - (d : Int) = ((P.length + z - d : Nat) : Int) := by omega
                  generalize bs (sayN P d z) = S1 at *
                  go_wp2
                  go_round
                  case rel => exact ⟨z + 1, by omega, by go_num, by rw [← HMz.out]⟩
                  case measure => simp [intOf]; omega
                · obtain rfl : z = m := by omega
                  go_wp2
                  go_roundw
                  case rel => exact ⟨j + 1, sayN P d z, by omega, by go_num, rfl, by rw [← HSY.out]; exact HE3.out, HBX.out _⟩
                  case measure => simp [intOf]; omega
          · obtain rfl : j = nt := by omega
            have HE3 : Hid (expF 9223372036854775807 (lefJ l (k + 1)) P = (X, 0)) := by
              rw [HNT.out, List.drop_length, List.nil_append] at hE
              exact hE
            have HB1 : Hid (Below w1.heap.size w1 wr) := hBw
            clear hE hBw
            go_wp2
            go_roundw
            case rel => exact ⟨k + 1, P, by omega, by go_num, rfl, HE3.out, HB1.out⟩
            case measure => simp [intOf]; omega
      · obtain rfl : k = l.length := by omega
        have hXO : O = X := by
          unfold lefJ at hE
          rw [List.drop_length] at hE
          simp only [List.map_nil, jkP, List.flatMap_nil, expF, Prod.mk.injEq, and_true] at hE
          exact hE
        subst hXO
        have HB1 : Hid (Below w.heap.size w wr) := HB.out.trans (hBw.mono hBs)
        clear hE hBw
        go_wp2
        exact bodyPost_ret (v := .tuple #[.string (bs O), .int .i64 (Q8 : Int), .int .i64 0]) (by simp [results, Try.results8, go_sem]) rfl (.inl ⟨_, _, HR.out, by rw [HX.out, HQ8.out], hq, HB1.out⟩)
  · have HB : Hid (Below w.heap.size w w1) := hB
    have HR : Hid (r = .error er) := hr
    have heri : ((er : Int) != 0) = true := by simpa using her
    clear hB HH hr
    go_wp2
    exact bodyPost_ret (v := .tuple #[.string ⟨#[]⟩, .int .i64 0, .int .i64 (er : Int)]) (by simp [results, Try.results8, go_sem]) rfl (.inr ⟨er, HR.out, her, rfl, HB.out⟩)
end Go.Proofs.Ythkppipdflmekaa
