/- Contract: the document's Under. -/
import Derived.Test.YtdgicclmjloigaaDoorWkL
import Derived.BigQuiet
import Derived.Deep.QuietTactic
namespace Go.Proofs.YtdgicclmjloigaaDoor
open Go.RowKit Go.Maps
set_option linter.unusedVariables false
set_option linter.unusedSimpArgs false

theorem pfx_iff (a q : List UInt8) : pfx a (q ++ [47]) ↔ q.length < a.length ∧ a.take (q.length + 1) = q ++ [47] := by
  have e : (q ++ [47]).length = q.length + 1 := by simp
  constructor
  · intro h
    have := pfx_len h
    rw [e] at this
    refine ⟨by omega, ?_⟩
    unfold pfx at h
    rw [e] at h
    exact h
  · rintro ⟨_, h⟩
    unfold pfx
    rw [e]
    exact h
theorem IO.empty (w : World) : IO (w.alloc (.cells #[] 25)) w.heap.size (.slice (some ⟨w.heap.size, 0, none⟩) 0 0) [] := ⟨rfl, .inr ⟨w.heap.size, 0, #[], rfl, Nat.le_refl _, heap_alloc_new w _, Nat.le_refl _, by decide, rfl, rfl⟩⟩
set_option maxRecDepth 100000 in
set_option maxHeartbeats 2000000 in
theorem runder_any (v : Value) (l : List It) (q : List UInt8) (w : World) (hR : IV w v l) (hl : l.length ≤ 1000) (hp : ∀ x ∈ l, x.p.length ≤ 9223372036854775807) (hqz : q.length ≤ 140737488351232) :
    Calls Tryd.prog 13 #[v, .string (mkB q)] w fun e w' => ∃ a' c', e = .returned (.slice a' (undL q l).length c') ∧ IO w' w.heap.size (.slice a' (undL q l).length c') (undL q l) ∧ Below w.heap.size w w' := by
  have HIV : Hid (IV w v l) := hR
  obtain ⟨a0, cap, rfl, -, -, -⟩ := hR
  obtain ⟨n, hn⟩ : ∃ n, n = l.length := ⟨_, rfl⟩
  have HN : Hid (n = l.length) := hn
  rw [← hn] at hl HIV
  rw [← hn]
  clear hn
  have HP : Hid (∀ x ∈ l, x.p.length ≤ 9223372036854775807) := hp
  clear hp
  by_cases hq0 : q = []
  · have HE : Hid (undL q l = []) := if_pos hq0
    rw [HE.out]
    have h0 : (mkB q).toList.isEmpty = true := by rw [hq0, mkB_toList]; rfl
    clear hq0
    go_enter Tryd.func13, Tryd.ntmps13
    go_wp2
    go_loopw [5, 11] (fun s i wr => ∃ (k : Nat), k ≤ n ∧ i = .int .i64 (k : Int) ∧ s = .slice (some ⟨w.heap.size, 0, none⟩) 0 0 ∧ IO wr w.heap.size (.slice (some ⟨w.heap.size, 0, none⟩) 0 0) [] ∧ Below w.heap.size w wr) (fun _ i _ => n - (intOf i).toNat)
    case atStart => exact ⟨0, Nat.zero_le _, rfl, rfl, IO.empty w, (Below.refl _ _).alloc (Nat.le_refl _) _⟩
    case round =>
      obtain ⟨k, hk, rfl, rfl, hO, hb⟩ := hrel
      have HO : Hid (IO wr w.heap.size (.slice (some ⟨w.heap.size, 0, none⟩) 0 0) []) := hO
      have HB : Hid (Below w.heap.size w wr) := hb
      clear hO hb
      by_cases hlt : k < n
      · obtain ⟨x, hx⟩ : ∃ x, l[k]? = some x := ⟨_, List.getElem?_eq_getElem (by rw [← HN.out]; exact hlt)⟩
        have hlti : (k : Int) < (n : Int) := by omega
        obtain ⟨g, o, rfl, hg, -, hcap, c0, c1, c2, c3, c4⟩ := (HIV.out.below HB.out).at hx
        have hzo := zeroIt
        have hb2 : Below wr.heap.size wr (wr.alloc (.cells #[.string (mkB x.p), .int .i64 x.k, .int .i64 x.m, .int .i64 x.t, .string (mkB x.d)] 25)) := (Below.refl _ _).alloc (Nat.le_refl _) _
        have HB2 : Hid (Below w.heap.size w (wr.alloc (.cells #[.string (mkB x.p), .int .i64 x.k, .int .i64 x.m, .int .i64 x.t, .string (mkB x.d)] 25))) := HB.out.trans (hb2.mono HB.out.size)
        have HO2 : Hid (IO (wr.alloc (.cells #[.string (mkB x.p), .int .i64 x.k, .int .i64 x.m, .int .i64 x.t, .string (mkB x.d)] 25)) w.heap.size (.slice (some ⟨w.heap.size, 0, none⟩) 0 0) []) := HO.out.below hb2
        clear hb2
        go_wp2
        go_roundw
        case rel => exact ⟨k + 1, by omega, by go_num, rfl, HO2.out, HB2.out⟩
        case measure => simp [intOf]; omega
      · have hlti : ¬ (k : Int) < (n : Int) := by omega
        go_wp2
        go_ret
        exact ⟨_, 0, rfl, HO.out, HB.out⟩
  · have h0 : (mkB q).toList.isEmpty = false := by
      rw [mkB_toList]; cases q with
      | nil => exact absurd rfl hq0
      | cons _ _ => rfl
    have hz47 : ¬ 9223372036854775807 < (mkB q).size + 1 := by rw [mkB_size]; omega
    have hc47 := cat47 q hqz
    have HF : Hid (undL q l = l.filter (undB q)) := if_neg hq0
    rw [HF.out]
    have HQ : Hid (q.length ≤ 140737488351232) := hqz
    clear hq0 hqz
    go_enter Tryd.func13, Tryd.ntmps13
    go_wp2
    go_loopw [5, 11] (fun s i wr => ∃ (k : Nat) (ua : Option Addr) (uc : Nat), k ≤ n ∧ i = .int .i64 (k : Int) ∧ s = .slice ua ((l.take k).filter (undB q)).length uc ∧ IO wr w.heap.size (.slice ua ((l.take k).filter (undB q)).length uc) ((l.take k).filter (undB q)) ∧ Below w.heap.size w wr) (fun _ i _ => n - (intOf i).toNat)
    case atStart => exact ⟨0, some ⟨w.heap.size, 0, none⟩, 0, Nat.zero_le _, rfl, rfl, IO.empty w, (Below.refl _ _).alloc (Nat.le_refl _) _⟩
    case round =>
      obtain ⟨k, ua, uc, hk, rfl, rfl, hO, hb⟩ := hrel
      have HO : Hid (IO wr w.heap.size (.slice ua ((l.take k).filter (undB q)).length uc) ((l.take k).filter (undB q))) := hO
      have HB : Hid (Below w.heap.size w wr) := hb
      clear hO hb
      by_cases hlt : k < n
      · obtain ⟨x, hx⟩ : ∃ x, l[k]? = some x := ⟨_, List.getElem?_eq_getElem (by rw [← HN.out]; exact hlt)⟩
        have hlti : (k : Int) < (n : Int) := by omega
        have HXP : Hid (x.p.length ≤ 9223372036854775807) := HP.out x (List.mem_of_getElem? hx)
        obtain ⟨g, o, rfl, hg, -, hcap, c0, c1, c2, c3, c4⟩ := (HIV.out.below HB.out).at hx
        have HT : Hid ((l.take (k + 1)).filter (undB q) = (l.take k).filter (undB q) ++ if undB q x then [x] else []) := by unfold Hid; rw [List.take_add_one, hx]; exact undL_snoc q _ x
        have HLE := fil_len q l k
        generalize (l.take k).filter (undB q) = F at *
        have hzo := zeroIt
        obtain ⟨W2, hW2⟩ : ∃ W2, W2 = wr.alloc (.cells #[.string (mkB x.p), .int .i64 x.k, .int .i64 x.m, .int .i64 x.t, .string (mkB x.d)] 25) := ⟨_, rfl⟩
        have hb2 : Below wr.heap.size wr W2 := by rw [hW2]; exact (Below.refl _ _).alloc (Nat.le_refl _) _
        have hnew : W2.heap[wr.heap.size]? = some (.cells #[.string (mkB x.p), .int .i64 x.k, .int .i64 x.m, .int .i64 x.t, .string (mkB x.d)] 25 (0, 0)) := by rw [hW2]; exact heap_alloc_new wr _
        have HB2 : Hid (Below w.heap.size w W2) := HB.out.trans (hb2.mono HB.out.size)
        have HO2 : Hid (IO W2 w.heap.size (.slice ua F.length uc) F) := HO.out.below hb2
        have HX2 : Hid (W2.heap[wr.heap.size]? = some (.cells #[.string (mkB x.p), .int .i64 x.k, .int .i64 x.m, .int .i64 x.t, .string (mkB x.d)] 25 (0, 0))) := hnew
        have b0 : W2.cell? ⟨wr.heap.size, 0, none⟩ = some (.string (mkB x.p)) := by unfold World.cell?; rw [hnew]; rfl
        have hsz2 : wr.heap.size < W2.heap.size := (Array.getElem?_eq_some_iff.1 hnew).1
        have HW2 : Hid (wr.alloc (.cells #[.string (mkB x.p), .int .i64 x.k, .int .i64 x.m, .int .i64 x.t, .string (mkB x.d)] 25) = W2) := hW2.symm
        have b1 : W2.cell? ⟨wr.heap.size, 1, none⟩ = some (.int .i64 x.k) := by unfold World.cell?; rw [hnew]; rfl
        have b2 : W2.cell? ⟨wr.heap.size, 2, none⟩ = some (.int .i64 x.m) := by unfold World.cell?; rw [hnew]; rfl
        have b3 : W2.cell? ⟨wr.heap.size, 3, none⟩ = some (.int .i64 x.t) := by unfold World.cell?; rw [hnew]; rfl
        have b4 : W2.cell? ⟨wr.heap.size, 4, none⟩ = some (.string (mkB x.d)) := by unfold World.cell?; rw [hnew]; rfl
        have HSZ : Hid (W2.heap.size = wr.heap.size + 1) := by unfold Hid; rw [hW2]; simp
        have HZ : Hid (w.heap.size ≤ W2.heap.size) := HB2.out.size
        clear hb2 hnew hW2
        by_cases hpq : x.p = q
        · have hq : ((mkB x.p).toList == (mkB q).toList) = true := by rw [mkB_beq, decide_eq_true hpq]
          have HU : Hid (undB q x = true) := by unfold Hid undB; rw [decide_eq_true hpq]; rfl
          clear hpq
          go_wp2_with (at_builtin; rw [show wr.alloc (.cells #[.string (mkB x.p), .int .i64 x.k, .int .i64 x.m, .int .i64 x.t, .string (mkB x.d)] 25) = W2 from HW2.out]; refine append_it rfl _ _ rfl w.heap.size (.slice ua F.length uc) F x rfl (by rw [HSZ.out]; rfl) HO2.out (by omega) HZ.out ?_; intro a' c' w3 hO3 hg3)
          have HO3 : Hid (IO w3 w.heap.size (.slice a' (F.length + 1) c') ((l.take (k + 1)).filter (undB q))) := by unfold Hid; rw [HT.out, HU.out, if_pos rfl]; exact hO3
          have HB3 : Hid (Below w.heap.size w w3) := HB2.out.grown hg3 HZ.out (fun k hk => (HO2.out.lt k hk).1)
          have HL3 : Hid (((l.take (k + 1)).filter (undB q)).length = F.length + 1) := by unfold Hid; rw [HT.out, HU.out, if_pos rfl]; simp
          clear hO3 hg3
          go_wp2
          go_roundw
          case rel => exact ⟨k + 1, a', c', by omega, by go_num, by rw [HL3.out], by rw [HL3.out]; exact HO3.out, HB3.out⟩
          case measure => simp [intOf]; omega
        · have hq : ((mkB x.p).toList == (mkB q).toList) = false := by rw [mkB_beq, decide_eq_false hpq]
          have zx := mkB_size x.p
          have zq := mkB_size q
          have hqb := HQ.out
          have hw1 : IntKind.i64.wrap ((q.length : Int) + 1) = (q.length : Int) + 1 := by rw [IntKind.wrap_i64]; omega
          by_cases hpf : pfx x.p (q ++ [47])
          · have HU : Hid (undB q x = true) := by unfold Hid undB; rw [decide_eq_true hpf, Bool.or_true]
            obtain ⟨hgl, hgt⟩ := (pfx_iff _ _).1 hpf
            have hgi : (q.length : Int) < (x.p.length : Int) := by omega
            have hex : (mkB x.p).extract 0 (q.length + 1) = mkB (q ++ [47]) := by rw [extT, hgt]
            clear hpq hpf hgt
            go_wp2_with (at_builtin; rw [show wr.alloc (.cells #[.string (mkB x.p), .int .i64 x.k, .int .i64 x.m, .int .i64 x.t, .string (mkB x.d)] 25) = W2 from HW2.out]; refine append_it rfl _ _ rfl w.heap.size (.slice ua F.length uc) F x rfl (by rw [HSZ.out]; rfl) HO2.out (by omega) HZ.out ?_; intro a' c' w3 hO3 hg3)
            have HO3 : Hid (IO w3 w.heap.size (.slice a' (F.length + 1) c') ((l.take (k + 1)).filter (undB q))) := by unfold Hid; rw [HT.out, HU.out, if_pos rfl]; exact hO3
            have HB3 : Hid (Below w.heap.size w w3) := HB2.out.grown hg3 HZ.out (fun k hk => (HO2.out.lt k hk).1)
            have HL3 : Hid (((l.take (k + 1)).filter (undB q)).length = F.length + 1) := by unfold Hid; rw [HT.out, HU.out, if_pos rfl]; simp
            clear hO3 hg3
            go_wp2
            go_roundw
            case rel => exact ⟨k + 1, a', c', by omega, by go_num, by rw [HL3.out], by rw [HL3.out]; exact HO3.out, HB3.out⟩
            case measure => simp [intOf]; omega
          · have HU : Hid (undB q x = false) := by unfold Hid undB; rw [decide_eq_false hpf, decide_eq_false hpq]; rfl
            have HT2 : Hid ((l.take (k + 1)).filter (undB q) = F) := by unfold Hid; rw [HT.out, HU.out]; simp
            have HB2' : Hid (Below w.heap.size w (wr.alloc (.cells #[.string (mkB x.p), .int .i64 x.k, .int .i64 x.m, .int .i64 x.t, .string (mkB x.d)] 25))) := by unfold Hid; rw [HW2.out]; exact HB2.out
            have HO2' : Hid (IO (wr.alloc (.cells #[.string (mkB x.p), .int .i64 x.k, .int .i64 x.m, .int .i64 x.t, .string (mkB x.d)] 25)) w.heap.size (.slice ua F.length uc) F) := by unfold Hid; rw [HW2.out]; exact HO2.out
            by_cases hgl : q.length < x.p.length
            · have hgi : (q.length : Int) < (x.p.length : Int) := by omega
              have hex : (mkB x.p).extract 0 (q.length + 1) = mkB (x.p.take (q.length + 1)) := extT _ _
              have hne : ((mkB (x.p.take (q.length + 1))).toList == (mkB (q ++ [47])).toList) = false := by
                rw [mkB_beq]; exact decide_eq_false fun h => hpf ((pfx_iff _ _).2 ⟨hgl, h⟩)
              clear hpq hpf
              go_wp2
              go_roundw
              case rel => exact ⟨k + 1, ua, uc, by omega, by go_num, by rw [HT2.out], by rw [HT2.out]; exact HO2'.out, HB2'.out⟩
              case measure => simp [intOf]; omega
            · have hgi : ¬ (q.length : Int) < (x.p.length : Int) := by omega
              clear hpq hpf
              go_wp2
              go_roundw
              case rel => exact ⟨k + 1, ua, uc, by omega, by go_num, by rw [HT2.out], by rw [HT2.out]; exact HO2'.out, HB2'.out⟩
              case measure => simp [intOf]; omega
      · have hlti : ¬ (k : Int) < (n : Int) := by omega
        have HE : Hid ((l.take k).filter (undB q) = l.filter (undB q)) := by unfold Hid; rw [List.take_of_length_le (by rw [← HN.out]; omega)]
        rw [HE.out]
        go_wp2
        go_ret
        rw [HE.out] at HO
        exact ⟨ua, uc, rfl, HO.out, HB.out⟩
end Go.Proofs.YtdgicclmjloigaaDoor
