/- Contract: walk.Under. -/
import Derived.Test.YtmjfcneofpddiaaDoorQWkK
import Derived.BigQuiet
import Derived.Deep.QuietTactic
namespace Go.Proofs.YtmjfcneofpddiaaDoor
open Go.RowKit Go.Maps
set_option linter.unusedVariables false
set_option linter.unusedSimpArgs false

/-- What lies at the path q or under it. -/
def undB (q : List UInt8) (x : It) : Bool := decide (x.p = q) || decide (pfx x.p (q ++ [47]))
def undL (q : List UInt8) (l : List It) : List It := if q = [] then [] else l.filter (undB q)
theorem undL_snoc (q : List UInt8) (l : List It) (x : It) : (l ++ [x]).filter (undB q) = l.filter (undB q) ++ if undB q x then [x] else [] := by
  rw [List.filter_append]; congr 1; simp only [List.filter_cons, List.filter_nil]
theorem fil_len (q : List UInt8) (l : List It) (k : Nat) : ((l.take k).filter (undB q)).length ≤ k :=
  Nat.le_trans (List.length_filter_le _ _) (by rw [List.length_take]; omega)
theorem cat47 (q : List UInt8) (h : q.length ≤ 140737488351232) (w : World) : (Op.stringOp .add (mkB q) ⟨#[47]⟩).run Tryd.prog w = .ok (.string (mkB (q ++ [47]))) w := by
  have e : (⟨#[47]⟩ : ByteArray) = mkB [47] := rfl
  rw [e, run_string_add_sum _ _ _ (by rw [mkB_size, mkB_size]; simp; omega)]
  congr 2
set_option maxRecDepth 100000 in
set_option maxHeartbeats 2000000 in
theorem under_any (v : Value) (l : List It) (q : List UInt8) (w : World) (hR : IV w v l) (hl : l.length ≤ 1000) (hp : ∀ x ∈ l, x.p.length ≤ 9223372036854775807) (hqz : q.length ≤ 140737488351232) :
    Calls Tryd.prog 13 #[v, .string (mkB q)] w fun e w' => ∃ a' c', e = .returned (.slice a' (undL q l).length c') ∧ IO w' w.heap.size (.slice a' (undL q l).length c') (undL q l) ∧ Below w.heap.size w w' := by
  have HIV : Hid (IV w v l) := hR
  obtain ⟨a0, cap, rfl, -, -, -⟩ := hR
  obtain ⟨n, hn⟩ : ∃ n, n = l.length := ⟨_, rfl⟩
  have HN : Hid (n = l.length) := hn
  rw [← hn] at hl HIV
  rw [← hn]
  clear hn
  have HP : Hid (∀ x ∈ l, x.p.length ≤ 9223372036854775807) := hp
  clear hp
  have hnil : ∀ W : World, IO W w.heap.size (.slice none 0 0) [] := fun W => ⟨rfl, .inl ⟨rfl, rfl⟩⟩
  by_cases hq0 : q = []
  · subst hq0
    have HE : Hid (undL [] l = []) := if_pos rfl
    rw [HE.out]
    have h0 : (mkB []).toList.isEmpty = true := by rw [mkB_toList]; rfl
    go_enter Tryd.func13, Tryd.ntmps13
    go_wp2
    go_ret
    exact ⟨none, 0, rfl, hnil _, Below.refl _ _⟩
  · have h0 : (mkB q).toList.isEmpty = false := by
      rw [mkB_toList]; cases q with
      | nil => exact absurd rfl hq0
      | cons _ _ => rfl
    have hz47 : ¬ 9223372036854775807 < (mkB q).size + 1 := by rw [mkB_size]; omega
    have hc47 := cat47 q hqz
    have HF : Hid (undL q l = l.filter (undB q)) := if_neg hq0
    rw [HF.out]
    have HQ : Hid (q.length ≤ 140737488351232) := hqz
    clear hq0 hqz
    go_enter Tryd.func13, Tryd.ntmps13
    go_wp2
    go_loopw [6, 15] (fun s i wr => ∃ (k : Nat) (ua : Option Addr) (uc : Nat), k ≤ n ∧ i = .int .i64 (k : Int) ∧ s = .slice ua ((l.take k).filter (undB q)).length uc ∧ IO wr w.heap.size (.slice ua ((l.take k).filter (undB q)).length uc) ((l.take k).filter (undB q)) ∧ Below w.heap.size w wr) (fun _ i _ => n - (intOf i).toNat)
    case atStart => exact ⟨0, none, 0, Nat.zero_le _, rfl, rfl, hnil _, Below.refl _ _⟩
    case round =>
      obtain ⟨k, ua, uc, hk, rfl, rfl, hO, hb⟩ := hrel
      have HO : Hid (IO wr w.heap.size (.slice ua ((l.take k).filter (undB q)).length uc) ((l.take k).filter (undB q))) := hO
      have HB : Hid (Below w.heap.size w wr) := hb
      clear hO hb
      by_cases hlt : k < n
      · obtain ⟨x, hx⟩ : ∃ x, l[k]? = some x := ⟨_, List.getElem?_eq_getElem (by rw [← HN.out]; exact hlt)⟩
        have hlti : (k : Int) < (n : Int) := by omega
        have HXP : Hid (x.p.length ≤ 9223372036854775807) := HP.out x (List.mem_of_getElem? hx)
        obtain ⟨g, o, rfl, hg, -, hcap, c0, c1, c2, c3, c4⟩ := (HIV.out.below HB.out).at hx
        have HT : Hid ((l.take (k + 1)).filter (undB q) = (l.take k).filter (undB q) ++ if undB q x then [x] else []) := by unfold Hid; rw [List.take_add_one, hx]; exact undL_snoc q _ x
        have HLE := fil_len q l k
        generalize (l.take k).filter (undB q) = F at *
        have hzo := zeroIt
        obtain ⟨W2, hW2⟩ : ∃ W2, W2 = wr.alloc (.cells #[.string (mkB x.p), .int .i64 x.k, .int .i64 x.m, .int .i64 x.t, .string (mkB x.d)] 25) := ⟨_, rfl⟩
        have hb2 : Below wr.heap.size wr W2 := by rw [hW2]; exact (Below.refl _ _).alloc (Nat.le_refl _) _
        have hnew : W2.heap[wr.heap.size]? = some (.cells #[.string (mkB x.p), .int .i64 x.k, .int .i64 x.m, .int .i64 x.t, .string (mkB x.d)] 25 (0, 0)) := by rw [hW2]; exact heap_alloc_new wr _
        have HB2 : Hid (Below w.heap.size w W2) := HB.out.trans (hb2.mono HB.out.size)
        have HO2 : Hid (IO W2 w.heap.size (.slice ua F.length uc) F) := HO.out.below hb2
        have HX2 : Hid (W2.heap[wr.heap.size]? = some (.cells #[.string (mkB x.p), .int .i64 x.k, .int .i64 x.m, .int .i64 x.t, .string (mkB x.d)] 25 (0, 0))) := hnew
        have b0 : W2.cell? ⟨wr.heap.size, 0, none⟩ = some (.string (mkB x.p)) := by unfold World.cell?; rw [hnew]; rfl
        have hsz2 : wr.heap.size < W2.heap.size := (Array.getElem?_eq_some_iff.1 hnew).1
        have HW2 : Hid (wr.alloc (.cells #[.string (mkB x.p), .int .i64 x.k, .int .i64 x.m, .int .i64 x.t, .string (mkB x.d)] 25) = W2) := hW2.symm
        have b1 : W2.cell? ⟨wr.heap.size, 1, none⟩ = some (.int .i64 x.k) := by unfold World.cell?; rw [hnew]; rfl
        have b2 : W2.cell? ⟨wr.heap.size, 2, none⟩ = some (.int .i64 x.m) := by unfold World.cell?; rw [hnew]; rfl
        have b3 : W2.cell? ⟨wr.heap.size, 3, none⟩ = some (.int .i64 x.t) := by unfold World.cell?; rw [hnew]; rfl
        have b4 : W2.cell? ⟨wr.heap.size, 4, none⟩ = some (.string (mkB x.d)) := by unfold World.cell?; rw [hnew]; rfl
        have HSZ : Hid (W2.heap.size = wr.heap.size + 1) := by unfold Hid; rw [hW2]; simp
        have HZ : Hid (w.heap.size ≤ W2.heap.size) := HB2.out.size
        clear hb2 hnew hW2
        by_cases hpq : x.p = q
        · have hq : ((mkB x.p).toList == (mkB q).toList) = true := by rw [mkB_beq, decide_eq_true hpq]
          have HU : Hid (undB q x = true) := by unfold Hid undB; rw [decide_eq_true hpq]; rfl
          clear hpq
          go_wp2_with (at_builtin; rw [show wr.alloc (.cells #[.string (mkB x.p), .int .i64 x.k, .int .i64 x.m, .int .i64 x.t, .string (mkB x.d)] 25) = W2 from HW2.out]; refine append_it rfl _ _ rfl w.heap.size (.slice ua F.length uc) F x rfl (by rw [HSZ.out]; rfl) HO2.out (by omega) HZ.out ?_; intro a' c' w3 hO3 hg3)
          have HO3 : Hid (IO w3 w.heap.size (.slice a' (F.length + 1) c') ((l.take (k + 1)).filter (undB q))) := by unfold Hid; rw [HT.out, HU.out, if_pos rfl]; exact hO3
          have HB3 : Hid (Below w.heap.size w w3) := HB2.out.grown hg3 HZ.out (fun k hk => (HO2.out.lt k hk).1)
          have HL3 : Hid (((l.take (k + 1)).filter (undB q)).length = F.length + 1) := by unfold Hid; rw [HT.out, HU.out, if_pos rfl]; simp
          clear hO3 hg3
          go_wp2
          go_roundw
          case rel => exact ⟨k + 1, a', c', by omega, by go_num, by rw [HL3.out], by rw [HL3.out]; exact HO3.out, HB3.out⟩
          case measure => simp [intOf]; omega
        · have hq : ((mkB x.p).toList == (mkB q).toList) = false := by rw [mkB_beq, decide_eq_false hpq]
          have HQ1 : Hid ((q ++ [47]).length ≤ 9223372036854775807) := by unfold Hid; have := HQ.out; simp; omega
          by_cases hpf : pfx x.p (q ++ [47])
          · have HU : Hid (undB q x = true) := by unfold Hid undB; rw [decide_eq_true hpf, Bool.or_true]
            have hdp : decide (pfx x.p (q ++ [47])) = true := decide_eq_true hpf
            clear hpq hpf
            go_wp2_with fail
            rw [show wr.alloc (.cells #[.string (mkB x.p), .int .i64 x.k, .int .i64 x.m, .int .i64 x.t, .string (mkB x.d)] 25) = W2 from HW2.out]
            refine (pfx_any x.p (q ++ [47]) _ HXP.out HQ1.out).mono ?_
            rintro e w3 ⟨rfl, rfl⟩
            rw [hdp]
            go_wp2_with (at_builtin; refine append_it rfl _ _ rfl w.heap.size (.slice ua F.length uc) F x rfl (by rw [HSZ.out]; rfl) HO2.out (by omega) HZ.out ?_; intro a' c' w3 hO3 hg3)
            have HO3 : Hid (IO w3 w.heap.size (.slice a' (F.length + 1) c') ((l.take (k + 1)).filter (undB q))) := by unfold Hid; rw [HT.out, HU.out, if_pos rfl]; exact hO3
            have HB3 : Hid (Below w.heap.size w w3) := HB2.out.grown hg3 HZ.out (fun k hk => (HO2.out.lt k hk).1)
            have HL3 : Hid (((l.take (k + 1)).filter (undB q)).length = F.length + 1) := by unfold Hid; rw [HT.out, HU.out, if_pos rfl]; simp
            clear hO3 hg3
            go_wp2
            go_roundw
            case rel => exact ⟨k + 1, a', c', by omega, by go_num, by rw [HL3.out], by rw [HL3.out]; exact HO3.out, HB3.out⟩
            case measure => simp [intOf]; omega
          · have HU : Hid (undB q x = false) := by unfold Hid undB; rw [decide_eq_false hpf, decide_eq_false hpq]; rfl
            have hdp : decide (pfx x.p (q ++ [47])) = false := decide_eq_false hpf
            have HT2 : Hid ((l.take (k + 1)).filter (undB q) = F) := by unfold Hid; rw [HT.out, HU.out]; simp
            clear hpq hpf
            go_wp2_with fail
            rw [show wr.alloc (.cells #[.string (mkB x.p), .int .i64 x.k, .int .i64 x.m, .int .i64 x.t, .string (mkB x.d)] 25) = W2 from HW2.out]
            refine (pfx_any x.p (q ++ [47]) _ HXP.out HQ1.out).mono ?_
            rintro e w3 ⟨rfl, rfl⟩
            rw [hdp]
            go_wp2
            go_roundw
            case rel => exact ⟨k + 1, ua, uc, by omega, by go_num, by rw [HT2.out], by rw [HT2.out]; exact HO2.out, HB2.out⟩
            case measure => simp [intOf]; omega
      · have hlti : ¬ (k : Int) < (n : Int) := by omega
        have HE : Hid ((l.take k).filter (undB q) = l.filter (undB q)) := by unfold Hid; rw [List.take_of_length_le (by rw [← HN.out]; omega)]
        rw [HE.out]
        go_wp2
        go_ret
        rw [HE.out] at HO
        exact ⟨ua, uc, rfl, HO.out, HB.out⟩
end Go.Proofs.YtmjfcneofpddiaaDoor
