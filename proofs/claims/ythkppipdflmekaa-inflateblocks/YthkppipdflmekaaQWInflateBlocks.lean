/- InflateBlocks: the walk. -/
import Derived.Test.YthkppipdflmekaaQRIn
import Derived.Test.YthkppipdflmekaaQAwake6
import Derived.Test.YthkppipdflmekaaQSnkM
import Derived.Test.YthkppipdflmekaaQInfO
import Derived.Test.YthkppipdflmekaaQInfErr
import Derived.Laws.StructEq
import Derived.BigQuiet
import Derived.Deep.QuietTactic
namespace Go.Proofs.Ythkppipdflmekaa
open Go.RowKit
set_option linter.unusedVariables false
set_option linter.unusedSimpArgs false

theorem few_b300 (s : ByteArray) (w : World) (hs : s.size ≤ 9223372036854775807) :
    Calls Try.prog 4 #[.string s, .int .i64 300] w fun e w' => e = .returned (.string (s.extract 0 300)) ∧ w' = w := few_any s 300 w (by decide) hs
theorem Try.stoodT5 : Try.prog.stoodInHeld 42 = false := by kernel_rfl
theorem Try.undT5 : Try.prog.underlying 42 = some (.struct (Try.prog.fieldsOf 42)) := by kernel_rfl
theorem eqFields_sameT (d : Nat) (xs : Array Value) (w : World) : ∀ fs : List Field, (∀ f ∈ fs, ∃ v, (part f.type xs f.offset).run Try.prog w = .ok v w ∧ (Op.equalIn d f.type v v).run Try.prog w = .ok true w) → (Op.eqFields d xs xs fs).run Try.prog w = .ok true w
  | [], _ => by simp [Op.eqFields]
  | f :: fs, h => by
    obtain ⟨v, h1, h2⟩ := h f (by simp)
    have ih := eqFields_sameT d xs w fs (fun g hg => h g (List.mem_cons_of_mem _ hg))
    simp only [Op.eqFields, Sem.run_ite, Sem.run_bind, h1, h2, Result.andThen_ok, Bool.not_true, Bool.false_eq_true, if_false, ih]
    split <;> rfl
theorem neq_tok (b l d : Int) (w : World) : (binOp .neq 42 (.agg #[.int .u8 b, .int .i64 l, .int .i64 d]) (.agg #[.int .u8 b, .int .i64 l, .int .i64 d])).run Try.prog w = .ok (.bool false) w := by
  rw [run_neq_struct, run_equalIn_agg _ _ _ _ _ Try.undT5 Try.stoodT5]
  have hf : (Try.prog.fieldsOf 42).toList.map (fun f => (f.type, f.offset)) = [(5, 0), (3, 1), (3, 2)] := by kernel_rfl
  rw [eqFields_sameT]
  · rfl
  · intro f hm
    have hm2 : (f.type, f.offset) ∈ [(5, 0), (3, 1), (3, 2)] := by rw [← hf]; exact List.mem_map.2 ⟨f, hm, rfl⟩
    generalize f.type = T at hm2 ⊢
    generalize f.offset = O at hm2 ⊢
    simp only [List.mem_cons, Prod.mk.injEq, List.not_mem_nil, or_false] at hm2
    rcases hm2 with ⟨rfl, rfl⟩ | ⟨rfl, rfl⟩ | ⟨rfl, rfl⟩
    · exact ⟨.int .u8 b, by kernel_rfl, by rw [run_equalIn_int _ _ _ _ _ _ _ Try.underlying5]; simp⟩
    · exact ⟨.int .i64 l, by kernel_rfl, by rw [run_equalIn_int _ _ _ _ _ _ _ Try.underlying3]; simp⟩
    · exact ⟨.int .i64 d, by kernel_rfl, by rw [run_equalIn_int _ _ _ _ _ _ _ Try.underlying3]; simp⟩
set_option maxRecDepth 100000 in
set_option maxHeartbeats 2000000 in
/-- Where both refuse. -/
theorem blocks_walkE (s S : ByteArray) (a m : Int) (er : Nat) (w : World) (h1 : s.size ≤ 140737488351232) (hS : S = s.extract 0 300) (her : er ≠ 0)
    (HP : Hid (∀ W, Calls Try.prog 5 #[.string S, .int .i64 a, .int .i64 m] W fun e w' => e = .returned (.tuple #[.slice none 0 0, .int .i64 0, .int .i64 (er : Int)]) ∧ Below W.heap.size W w'))
    (HR : Hid (∀ W, Calls Try.prog 6 #[.string S, .int .i64 a, .int .i64 m] W fun e w' => e = .returned (.tuple #[.slice none 0 0, .int .i64 0, .int .i64 (er : Int)]) ∧ Below W.heap.size W w'))
    (HI : Hid (∀ W, Calls Try.prog 7 #[.string S, .int .i64 a, .int .i64 m] W fun e w' => e = .returned (.tuple #[.string ⟨#[]⟩, .int .i64 0, .int .i64 (er : Int)]) ∧ Below W.heap.size W w'))
    (HJ : Hid (∀ W, Calls Try.prog 8 #[.string S, .int .i64 a, .int .i64 m] W fun e w' => e = .returned (.tuple #[.string ⟨#[]⟩, .int .i64 0, .int .i64 (er : Int)]) ∧ Below W.heap.size W w')) :
    Calls Try.prog 3 #[.string s, .int .i64 a, .int .i64 m] w fun e w' => e = .returned (.bool true) ∧ Below w.heap.size w w' := by
  have HF1 : Hid (∀ W, Calls Try.prog 4 #[.string s, .int .i64 300] W fun e w' => e = .returned (.string S) ∧ w' = W) := fun W => by rw [hS]; exact few_b300 s W (by omega)
  have HAW : Hid (∀ W, Calls Try.prog 9 #[] W fun e w' => e = .returned (.bool true) ∧ Below W.heap.size W w') := awake6_any
  have heri : ((er : Int) != 0) = true := by simpa using her
  clear hS
  go_enter Try.func3, Try.ntmps3
  go_wp2_with fail
  refine (HF1.out _).mono ?_
  rintro e w1 ⟨rfl, hw⟩
  obtain rfl : w = w1 := hw.symm
  clear hw HF1
  go_wp2_with fail
  refine (HP.out _).mono ?_
  rintro e w1 ⟨rfl, hb1⟩
  go_wp2_with fail
  refine (HR.out _).mono ?_
  rintro e w2 ⟨rfl, hb2⟩
  have HB2 : Hid (Below w.heap.size w w2) := hb1.trans (hb2.mono hb1.size)
  clear hb1 hb2
  go_wp2_with fail
  refine (HI.out _).mono ?_
  rintro e w3 ⟨rfl, hb3⟩
  have HB3 : Hid (Below w.heap.size w w3) := HB2.out.trans (hb3.mono HB2.out.size)
  clear hb3 HB2
  go_wp2_with fail
  refine (HJ.out _).mono ?_
  rintro e w4 ⟨rfl, hb4⟩
  have HB4 : Hid (Below w.heap.size w w4) := HB3.out.trans (hb4.mono HB3.out.size)
  clear hb4 HB3
  go_wp2_with fail
  refine (HAW.out _).mono ?_
  rintro e w5 ⟨rfl, hb5⟩
  have HB5 : Hid (Below w.heap.size w w5) := HB4.out.trans (hb5.mono HB4.out.size)
  clear hb5 HB4
  go_wp2
  go_loop [91] (fun i => i = .int .i64 0) (fun _ => 0)
  case atStart => rfl
  case round =>
    subst hrel
    go_wp2
    go_ret
    exact ⟨rfl, HB5.out⟩
theorem item_text {w w' : World} {B B' : Nat} {x y : Item} (hx : BItem w B x) (hy : BItemR w' B' y) (h : x.1 = y.1) : x.2.1 = y.2.1 := by
  have h1 := hx.1
  have h2 := hy.1
  rw [h, ← h2] at h1
  rw [← bs_nb x.2.1, ← bs_nb y.2.1]
  unfold nb
  rw [h1]
set_option maxRecDepth 100000 in
set_option maxHeartbeats 8000000 in
/-- Where both read. -/
theorem blocks_walkG (s S : ByteArray) (a m : Nat) (L0 : List Blk) (q : Nat) (w : World) (h1 : s.size ≤ 140737488351232) (hS : S = s.extract 0 300) (ha : a ≤ S.size) (hm : m ≤ 65536) (hr : blksF (bF8 (S.extract a S.size)) (8 * (S.extract a S.size).size) m (8 * (S.extract a S.size).size + 1) 0 0 [] = .ok (L0, q)) :
    Calls Try.prog 3 #[.string s, .int .i64 (a : Int), .int .i64 (m : Int)] w fun e w' => e = .returned (.bool true) ∧ Below w.heap.size w w' := by
  have hS3 : S.size ≤ 300 := by rw [hS, few_size]; omega
  have hSS : (S.extract a S.size).size ≤ 300 := by rw [ByteArray.size_extract]; omega
  have HF1 : Hid (∀ W, Calls Try.prog 4 #[.string s, .int .i64 300] W fun e w' => e = .returned (.string S) ∧ w' = W) := fun W => by rw [hS]; exact few_b300 s W (by omega)
  have HAW : Hid (∀ W, Calls Try.prog 9 #[] W fun e w' => e = .returned (.bool true) ∧ Below W.heap.size W w') := awake6_any
  have hout := blksF_out _ _ _ _ _ _ (Nat.zero_le _) (by simp [jkP]) hr
  obtain ⟨Q, hQ⟩ : ∃ Q, Q = (q + 7) / 8 := ⟨_, rfl⟩
  obtain ⟨T, hT⟩ : ∃ T, T = bs (expF 9223372036854775807 (jkP L0) []).1 := ⟨_, rfl⟩
  have HT : Hid (T = bs (expF 9223372036854775807 (jkP L0) []).1) := hT
  have HP : Hid (∀ W, Calls Try.prog 5 #[.string S, .int .i64 (a : Int), .int .i64 (m : Int)] W fun e w' => ∃ (l : List Item) (va : Option Addr) (vn vc : Nat), L0 = l.map Prod.fst ∧ vn = l.length ∧ e = .returned (.tuple #[.slice va vn vc, .int .i64 (Q : Int), .int .i64 0]) ∧ BRow w' W.heap.size (.slice va vn vc) l ∧ l.length ≤ 2400 ∧ Below W.heap.size W w') := fun W => by
    refine (blocks_good S (S.extract a S.size) a m _ W ha hm (by omega) rfl hr).mono ?_
    rintro e w' (⟨l, q', v, h, rfl, hO, h2, h3, hb⟩ | ⟨er, h, _⟩)
    · simp only [Except.ok.injEq, Prod.mk.injEq] at h
      obtain ⟨rfl, rfl⟩ := h
      obtain ⟨va, vc, rfl⟩ := own_slice hO.1
      exact ⟨l, va, _, vc, rfl, rfl, by rw [hQ], hO, by omega, hb⟩
    · cases h
  have HR : Hid (∀ W, Calls Try.prog 6 #[.string S, .int .i64 (a : Int), .int .i64 (m : Int)] W fun e w' => ∃ (l : List Item) (va : Option Addr) (vn vc : Nat), L0 = l.map Prod.fst ∧ vn = l.length ∧ e = .returned (.tuple #[.slice va vn vc, .int .i64 (Q : Int), .int .i64 0]) ∧ BRowR w' W.heap.size (.slice va vn vc) l ∧ Below W.heap.size W w') := fun W => by
    refine (rblocks_any S (S.extract a S.size) a m _ W ha hm (by omega) rfl hr).mono ?_
    rintro e w' (⟨l, q', v, h, rfl, hO, h2, h3, hb⟩ | ⟨er, h, _⟩)
    · simp only [Except.ok.injEq, Prod.mk.injEq] at h
      obtain ⟨rfl, rfl⟩ := h
      obtain ⟨va, vc, rfl⟩ := own_slice hO.1
      exact ⟨l, va, _, vc, rfl, rfl, by rw [hQ], hO, hb⟩
    · cases h
  have HI : Hid (∀ W, Calls Try.prog 7 #[.string S, .int .i64 (a : Int), .int .i64 (m : Int)] W fun e w' => e = .returned (.tuple #[.string T, .int .i64 (Q : Int), .int .i64 0]) ∧ Below W.heap.size W w') := fun W => by
    refine (inflate_good S (S.extract a S.size) a m _ W ha hm (by omega) rfl hr).mono ?_
    rintro e w' (⟨l, q', h, rfl, h2, hb⟩ | ⟨er, h, _⟩)
    · simp only [Except.ok.injEq, Prod.mk.injEq] at h
      obtain ⟨rfl, rfl⟩ := h
      exact ⟨by rw [hT, hQ], hb⟩
    · cases h
  have HJ : Hid (∀ W, Calls Try.prog 8 #[.string S, .int .i64 (a : Int), .int .i64 (m : Int)] W fun e w' => e = .returned (.tuple #[.string T, .int .i64 (Q : Int), .int .i64 0]) ∧ Below W.heap.size W w') := fun W => by
    refine (rinflate_any S (S.extract a S.size) a m _ W ha hm (by omega) rfl hr).mono ?_
    rintro e w' (⟨l, q', h, rfl, h2, hb⟩ | ⟨er, h, _⟩)
    · simp only [Except.ok.injEq, Prod.mk.injEq] at h
      obtain ⟨rfl, rfl⟩ := h
      exact ⟨by rw [hT, hQ], hb⟩
    · cases h
  have HOUT : Hid ((jkP L0).length ≤ 70000) := by unfold Hid; omega
  have HNT : Hid (∀ (b l d : Int) (W : World), (binOp .neq 42 (.agg #[.int .u8 b, .int .i64 l, .int .i64 d]) (.agg #[.int .u8 b, .int .i64 l, .int .i64 d])).run Try.prog W = .ok (.bool false) W) := neq_tok
  clear hS hr hout hQ hT hSS hS3 ha hm
  go_enter Try.func3, Try.ntmps3
  go_wp2_with fail
  refine (HF1.out _).mono ?_
  rintro e w1 ⟨rfl, hw⟩
  obtain rfl : w = w1 := hw.symm
  clear hw HF1
  go_wp2_with fail
  refine (HP.out _).mono ?_
  rintro e w1 ⟨l, va, vn, vc, hl0, hvn, rfl, hBR, hll, hb1⟩
  have HBR : Hid (BRow w1 w.heap.size (.slice va vn vc) l) := hBR
  have HL0 : Hid (L0 = l.map Prod.fst) := hl0
  have HVN : Hid (vn = l.length) := hvn
  have hvn2 : vn ≤ 2400 := by omega
  clear hBR hl0 hvn HP hll
  go_wp2_with fail
  refine (HR.out _).mono ?_
  rintro e w2 ⟨r, ua, un, uc, hl0, hun, rfl, hBR, hb2⟩
  have HBU : Hid (BRowR w2 w1.heap.size (.slice ua un uc) r) := hBR
  have HR0 : Hid (L0 = r.map Prod.fst) := hl0
  have hunn : un = vn := by
    have h1 := HL0.out
    rw [h1] at hl0
    have := congrArg List.length hl0
    rw [List.length_map, List.length_map] at this
    rw [hun, ← this]; exact HVN.out.symm
  subst hunn
  have HUN : Hid (un = r.length) := hun
  have HB2 : Hid (Below w.heap.size w w2) := hb1.trans (hb2.mono hb1.size)
  have HB12 : Hid (Below w1.heap.size w1 w2) := hb2
  clear hb1 hb2 hBR hl0 HR hun
  go_wp2_with fail
  refine (HI.out _).mono ?_
  rintro e w3 ⟨rfl, hb3⟩
  go_wp2_with fail
  refine (HJ.out _).mono ?_
  rintro e w4 ⟨rfl, hb4⟩
  have HB4 : Hid (Below w2.heap.size w2 w4) := hb3.trans (hb4.mono hb3.size)
  clear hb3 hb4 HI HJ
  go_wp2_with fail
  refine (HAW.out _).mono ?_
  rintro e w5 ⟨rfl, hb5⟩
  have HB5 : Hid (Below w2.heap.size w2 w5) := HB4.out.trans (hb5.mono HB4.out.size)
  clear hb5 HB4 HAW
  go_wp2
  have HBV : Hid (∀ nd, BRow (w5.drewN nd) w.heap.size (.slice va un vc) l) := fun nd => by
    have hb : Below w1.heap.size w1 (w5.drewN nd) := by
      have h := HB12.out.trans (HB5.out.mono HB12.out.size)
      exact ⟨h.os, h.tape, h.output, h.size, h.block⟩
    exact ⟨own_belowB6 HBR.out.1 hb, fun x hx => ⟨(HBR.out.2 x hx).1, own_belowB6 (HBR.out.2 x hx).2 hb⟩⟩
  have HC5 : Hid (∀ (g j : Nat) (v : Value), g < w1.heap.size → w1.cell? ⟨g, j, none⟩ = some v → w5.cell? ⟨g, j, none⟩ = some v) := fun g j v h1 h2 => by
    rw [HB5.out.cell (p := ⟨g, j, none⟩) (Nat.lt_of_lt_of_le h1 HB12.out.size), HB12.out.cell (p := ⟨g, j, none⟩) h1]; exact h2
  have HC6 : Hid (∀ (g j : Nat) (v : Value), g < w2.heap.size → w2.cell? ⟨g, j, none⟩ = some v → w5.cell? ⟨g, j, none⟩ = some v) := fun g j v h1 h2 => by
    rw [HB5.out.cell (p := ⟨g, j, none⟩) h1]; exact h2
  have HBW : Hid (∀ nd, Below w.heap.size w (w5.drewN nd)) := fun nd => by
    have h := HB2.out.trans (HB5.out.mono HB2.out.size)
    exact ⟨h.os, h.tape, h.output, h.size, h.block⟩
  go_loopw [91] (fun i wr => ∃ (k nd : Nat), k ≤ un ∧ i = .int .i64 (k : Int) ∧ wr = w5.drewN nd) (fun i _ => un - (intOf i).toNat)
  case atStart => exact ⟨0, 0, by omega, rfl, rfl⟩
  case round =>
    obtain ⟨k, nd, hk, rfl, rfl⟩ := hrel
    by_cases hlt : k < un
    · obtain ⟨⟨b, t, tv⟩, hx⟩ : ∃ x, l[k]? = some x := ⟨_, List.getElem?_eq_getElem (by rw [← HVN.out]; exact hlt)⟩
      obtain ⟨⟨b', t', tv'⟩, hy⟩ : ∃ y, r[k]? = some y := ⟨_, List.getElem?_eq_getElem (by rw [← HUN.out]; exact hlt)⟩
      have hbb : b = b' := by
        have h1 := congrArg (fun z : List Blk => z[k]?) (HL0.out.symm.trans HR0.out)
        simp only [List.getElem?_map, hx, hy, Option.map_some, Option.some.injEq] at h1
        exact h1
      subst hbb
      have hix := HBR.out.2 _ (List.mem_of_getElem? hx)
      have hiy := HBU.out.2 _ (List.mem_of_getElem? hy)
      have htt : t = t' := item_text hix hiy rfl
      subst htt
      obtain ⟨ta, tc, hta⟩ := own_slice hix.2
      simp only at hta
      subst hta
      obtain ⟨sa, sc, hsa⟩ := own_slice hiy.2
      simp only at hsa
      subst hsa
      have h0 := HBR.out.1
      have h0' := HBU.out.1
      rw [← HVN.out] at h0
      rw [← HUN.out] at h0'
      obtain ⟨g, cap, hform, hgB, hcap, hgs⟩ := own_frm0 h0 (by omega)
      simp only [Value.slice.injEq, true_and] at hform
      obtain ⟨rfl, rfl⟩ := hform
      obtain ⟨g', cap', hform, hgB', hcap', hgs'⟩ := own_frm0 h0' (by omega)
      simp only [Value.slice.injEq, true_and] at hform
      obtain ⟨rfl, rfl⟩ := hform
      obtain ⟨c0, c1, c2⟩ := bcs_at l k _ hx
      obtain ⟨d0, d1, d2⟩ := bcs_at r k _ hy
      rw [← h0.cellAt (k * 3) (by omega)] at c0
      rw [← h0.cellAt (k * 3 + 1) (by omega)] at c1
      rw [← h0.cellAt (k * 3 + 2) (by omega)] at c2
      rw [← h0'.cellAt (k * 3) (by omega)] at d0
      rw [← h0'.cellAt (k * 3 + 1) (by omega)] at d1
      rw [← h0'.cellAt (k * 3 + 2) (by omega)] at d2
      have e0 := HC5.out _ _ _ hgs c0
      have e1 := HC5.out _ _ _ hgs c1
      have e2 := HC5.out _ _ _ hgs c2
      have f0 := HC6.out _ _ _ hgs' d0
      have f1 := HC6.out _ _ _ hgs' d1
      have f2 := HC6.out _ _ _ hgs' d2
      simp only at e0 e1 e2 f0 f1 f2
      have HFX : Hid (∀ i y, b.toks[i]? = some y → ∃ g, ta = some ⟨g, 0, none⟩ ∧ w5.cell? ⟨g, i * 3, none⟩ = some (.int .u8 (y.b : Int)) ∧ w5.cell? ⟨g, i * 3 + 1, none⟩ = some (.int .i64 y.l) ∧ w5.cell? ⟨g, i * 3 + 2, none⟩ = some (.int .i64 y.d)) := by
        obtain ⟨a', cap', hv, hf⟩ := (TR.own hix.2).form
        simp only [Value.slice.injEq, true_and] at hv
        obtain ⟨rfl, rfl⟩ := hv
        intro i y hy
        obtain ⟨g, k1, k2, k3, k4, k5⟩ := hf i y hy
        exact ⟨g, k1, HC5.out _ _ _ k2 k3, HC5.out _ _ _ k2 k4, HC5.out _ _ _ k2 k5⟩
      have HFY : Hid (∀ i y, b.toks[i]? = some y → ∃ g, sa = some ⟨g, 0, none⟩ ∧ w5.cell? ⟨g, i * 3, none⟩ = some (.int .u8 (y.b : Int)) ∧ w5.cell? ⟨g, i * 3 + 1, none⟩ = some (.int .i64 y.l) ∧ w5.cell? ⟨g, i * 3 + 2, none⟩ = some (.int .i64 y.d)) := by
        obtain ⟨a', cap', hv, hf⟩ := (TR.own hiy.2).form
        simp only [Value.slice.injEq, true_and] at hv
        obtain ⟨rfl, rfl⟩ := hv
        intro i y hy
        obtain ⟨g, k1, k2, k3, k4, k5⟩ := hf i y hy
        exact ⟨g, k1, HC6.out _ _ _ k2 k3, HC6.out _ _ _ k2 k4, HC6.out _ _ _ k2 k5⟩
      obtain ⟨nt, hnt⟩ : ∃ nt, nt = b.toks.length := ⟨_, rfl⟩
      have HNTL : Hid (nt = b.toks.length) := hnt
      have hntb : nt ≤ 70000 := by
        have h1 := HOUT.out
        have h2 : (bkP b).length ≤ (jkP L0).length := by
          have hm : b ∈ L0 := by rw [HL0.out]; exact List.mem_map.2 ⟨_, List.mem_of_getElem? hx, rfl⟩
          unfold jkP
          obtain ⟨l1, l2, e⟩ := List.append_of_mem hm
          rw [e, List.flatMap_append, List.flatMap_cons, List.length_append, List.length_append]; omega
        unfold bkP at h2
        rw [List.length_append] at h2
        omega
      rw [← hnt] at e2 f2
      have hki : (k : Int) < (un : Int) := by omega
      have hki0 : (0 : Int) ≤ (k : Int) := by omega
      have n1 : ((b.kind : Int) != (b.kind : Int)) = false := by simp
      have n3 : ((nt : Int) != (nt : Int)) = false := by simp
      clear hx hy hix hiy h0 h0' hgB hcap hgs hgB' hcap' hgs' c0 c1 c2 d0 d1 d2 hnt
      go_wp2
      go_quiet (fail)
      go_wp2
      go_loopw [139] (fun i wr => ∃ (z nd : Nat), z ≤ nt ∧ i = .int .i64 (z : Int) ∧ wr = w5.drewN nd) (fun i _ => nt - (intOf i).toNat)
      case atStart => exact ⟨0, _, by omega, rfl, rfl⟩
      case round =>
        obtain ⟨z, nd, hz, rfl, rfl⟩ := hrel
        by_cases hzt : z < nt
        · obtain ⟨⟨yb, yl, yd⟩, hy⟩ : ∃ y, b.toks[z]? = some y := ⟨_, List.getElem?_eq_getElem (by rw [← HNTL.out]; exact hzt)⟩
          obtain ⟨g3, rfl, x0, x1, x2⟩ := HFX.out z _ hy
          obtain ⟨g4, rfl, y0, y1, y2⟩ := HFY.out z _ hy
          simp only at x0 x1 x2 y0 y1 y2
          have hzi : (z : Int) < (nt : Int) := by omega
          have hzi0 : (0 : Int) ≤ (z : Int) := by omega
          have hnq := HNT.out (yb : Int) yl yd
          clear hy
          go_wp2
          go_quiet (fail)
          go_wp2
          go_roundw
          case rel => exact ⟨z + 1, _, by omega, by go_num, rfl⟩
          case measure => simp [intOf]; omega
        · obtain rfl : z = nt := by omega
          clear e0 e1 e2 f0 f1 f2
          go_wp2
          go_roundw
          case rel => exact ⟨k + 1, nd, by omega, by go_num, rfl⟩
          case measure => simp [intOf]; omega
    · obtain rfl : k = un := by omega
      have hje := jtk_eq HBR.out
      rw [← HL0.out] at hje
      have HJO : Hid (Calls _ _ _ _ _) := join_any w.heap.size (.slice va k vc) l (w5.drewN nd) (HBV.out nd) (by rw [hje]; have := HOUT.out; omega) (by rw [← HVN.out]; omega)
      rw [hje, ← HT.out] at HJO
      clear hje
      go_wp2_with fail
      refine (Hid.out HJO : Calls _ _ _ _ _).mono ?_
      rintro e w7 ⟨rfl, hb7⟩
      have HB7 : Hid (Below w.heap.size w w7) := (HBW.out nd).trans (hb7.mono (HBW.out nd).size)
      clear hb7 HJO
      go_wp2
      go_ret
      exact ⟨rfl, HB7.out⟩
theorem lawInflateBlocks_walk (s : ByteArray) (a m : Int) (w : World) (h1 : s.size ≤ 140737488351232) (ha : -9223372036854775808 ≤ a ∧ a ≤ 9223372036854775807) (hm : -9223372036854775808 ≤ m ∧ m ≤ 9223372036854775807) :
    Calls Try.prog 3 #[.string s, .int .i64 a, .int .i64 m] w fun e w' => e = .returned (.bool true) ∧ Below w.heap.size w w' := by
  obtain ⟨S, hS⟩ : ∃ S, S = s.extract 0 300 := ⟨_, rfl⟩
  have hS3 : S.size ≤ 300 := by rw [hS, few_size]; omega
  by_cases hbad : a < 0 ∨ (S.size : Int) < a ∨ m < 0 ∨ 65536 < m
  · exact blocks_walkE s S a m 1 w h1 hS (by decide) (fun W => (blocks_bad S a m W hbad).mono (by rintro e w' ⟨rfl, rfl⟩; exact ⟨rfl, Below.refl _ _⟩)) (fun W => (rblocks_bad S a m W hbad).mono (by rintro e w' ⟨rfl, rfl⟩; exact ⟨rfl, Below.refl _ _⟩)) (fun W => (inflate_bad S a m W hbad).mono (by rintro e w' ⟨rfl, rfl⟩; exact ⟨rfl, Below.refl _ _⟩)) (fun W => (rinflate_bad S a m W hbad).mono (by rintro e w' ⟨rfl, rfl⟩; exact ⟨rfl, Below.refl _ _⟩))
  · obtain ⟨A, rfl⟩ : ∃ A : Nat, a = (A : Int) := ⟨a.toNat, by omega⟩
    obtain ⟨M, rfl⟩ : ∃ M : Nat, m = (M : Int) := ⟨m.toNat, by omega⟩
    have hA : A ≤ S.size := by omega
    have hM : M ≤ 65536 := by omega
    have hSS : (S.extract A S.size).size ≤ 300 := by rw [ByteArray.size_extract]; omega
    rcases hr : blksF (bF8 (S.extract A S.size)) (8 * (S.extract A S.size).size) M (8 * (S.extract A S.size).size + 1) 0 0 [] with er | ⟨L0, q⟩
    · have her : er ≠ 0 := blksF_no _ _ _ _ hr
      refine blocks_walkE s S A M er w h1 hS her (fun W => ?_) (fun W => ?_) (fun W => ?_) (fun W => ?_)
      · refine (blocks_good S _ A M _ W hA hM (by omega) rfl hr).mono ?_
        rintro e w' (⟨l, q', v, h, _⟩ | ⟨er', h, h2, rfl, hb⟩)
        · cases h
        · cases h; exact ⟨rfl, hb⟩
      · refine (rblocks_any S _ A M _ W hA hM (by omega) rfl hr).mono ?_
        rintro e w' (⟨l, q', v, h, _⟩ | ⟨er', h, h2, rfl, hb⟩)
        · cases h
        · cases h; exact ⟨rfl, hb⟩
      · refine (inflate_good S _ A M _ W hA hM (by omega) rfl hr).mono ?_
        rintro e w' (⟨l, q', h, _⟩ | ⟨er', h, h2, rfl, hb⟩)
        · cases h
        · cases h; exact ⟨rfl, hb⟩
      · refine (rinflate_any S _ A M _ W hA hM (by omega) rfl hr).mono ?_
        rintro e w' (⟨l, q', h, _⟩ | ⟨er', h, h2, rfl, hb⟩)
        · cases h
        · cases h; exact ⟨rfl, hb⟩
    · exact blocks_walkG s S A M L0 q w h1 hS hA hM hr
end Go.Proofs.Ythkppipdflmekaa
