/- Contract of huff.merge. -/
import Derived.Test.YtclmjopppaknjaaHPair
namespace Go.Proofs.Ytclmjopppaknjaa
open Go.RowKit
set_option linter.unusedVariables false
set_option linter.unusedSimpArgs false

/-- A slice of numbers that is read; it may be empty, at whatever place. -/
def NR (w : World) (v : Value) (zs : List Nat) : Prop := ∃ a cap, v = .slice a zs.length cap ∧ zs.length ≤ cap ∧ (zs ≠ [] → ∃ g o, a = some ⟨g, o, none⟩ ∧ g < w.heap.size ∧ ∀ i, i < zs.length → w.cell? ⟨g, o + i, none⟩ = some (.int .i64 (zs.getD i 0 : Int)))
theorem Try.undK : Try.prog.underlying 22 = some (.slice (Try.prog.elem 22)) := by kernel_rfl
theorem Try.szK (W : World) : (sizeOf (Try.prog.elem 22)).run Try.prog W = .ok 1 W := by kernel_rfl
/-- Without the first. -/
theorem NR.tail {w : World} {g o n cap x : Nat} {zs : List Nat} (hn : n = zs.length + 1) (hc : n ≤ cap) (hg : g < w.heap.size) (hcell : ∀ i, i < n → w.cell? ⟨g, o + i, none⟩ = some (.int .i64 ((x :: zs).getD i 0 : Int))) :
    ∃ a c, (∀ W, (Instr.slice 22 (.slice (some ⟨g, o, none⟩) n cap) (some (.int .i64 1)) none none).run Try.prog W = .ok (.slice a zs.length c) W) ∧ NR w (.slice a zs.length c) zs := by
  refine ⟨if cap = 1 then some ⟨g, o, none⟩ else some ⟨g, o + 1, none⟩, cap - 1, fun W => ?_, ?_⟩
  · rw [run_slice_l (ht := Try.undK) (h0 := by omega) (h1 := by omega), Try.szK]
    simp only [Result.andThen, sliced]
    by_cases e : cap = 1
    · simp [e, hn]
    · simp [e, hn, Addr.add]
  · refine ⟨_, _, rfl, by omega, fun hz => ?_⟩
    have hl : 0 < zs.length := List.length_pos_iff.2 hz
    rw [if_neg (by omega)]
    exact ⟨g, o + 1, rfl, hg, fun i hi => by
      have := hcell (i + 1) (by omega)
      rw [show o + 1 + i = o + (i + 1) by omega, this]
      simp⟩
theorem Try.infoIt : (Try.prog.info? 123).map (fun i => (i.zero, i.size, i.bytes)) = some (some (.agg #[.int .i64 0, .bool false]), 2, 16) := by kernel_rfl
theorem item_new (w : World) (x y : Value) (ty : TypeId) : ∀ j u, [x, y][j]? = some u → (w.alloc (.cells #[x, y] ty)).cell? ((⟨w.heap.size, 0, none⟩ : Addr).add j) = some u := World.news_of_block (heap_alloc_new w _)
theorem item_one (x : Int) (b : Bool) : ∀ u ∈ [Value.int .i64 x, .bool b], u.oneCell' = true := by
  intro u hu
  simp only [List.mem_cons, List.not_mem_nil, or_false] at hu
  rcases hu with rfl | rfl <;> rfl
theorem below_drewH {B : Nat} {w wr : World} (h : Below B w wr) (n : Nat) : Below B w (wr.drewN n) := ⟨h.os, h.tape, h.output, h.size, h.block⟩
def lenQ : Value → Nat
  | .slice _ n _ => n
  | _ => 0
set_option maxRecDepth 100000 in
set_option maxHeartbeats 2000000 in
theorem merge_any (v u : Value) (ws ts : List Nat) (w : World) (hV : NR w v ws) (hU : NR w u ts) (hl : ws.length + ts.length ≤ 1000000) :
    Calls Try.prog 67 #[v, u] w fun e w' => ∃ v', e = .returned v' ∧ w'.ownsRow w.heap.size 123 2 v' (mrg ws ts).length (itC (mrg ws ts)) ∧ Below w.heap.size w w' := by
  obtain ⟨i0, hi, hz0, hz1, hz2⟩ := info_parts Try.infoIt
  have hml := mrg_len ws ts
  go_enter Try.func67, Try.ntmps67
  go_wp2
  go_loopw [0, 1, 5] (fun x y o wr => ∃ (xs ys : List Nat) (acc : List Itm), NR w x xs ∧ NR w y ys ∧ acc ++ mrg xs ys = mrg ws ts ∧ wr.ownsRow w.heap.size 123 2 o acc.length (itC acc) ∧ Below w.heap.size w wr) (fun x y _ _ => lenQ x + lenQ y)
  case atStart => exact ⟨ws, ts, [], hV, hU, rfl, World.ownsRow_nil _ _ _ _, Below.refl _ _⟩
  case round =>
    clear hV hU
    obtain ⟨xs, ys, acc, hX, hY, hA, hO, hB⟩ := hrel
    have hal : acc.length + (xs.length + ys.length) = (mrg ws ts).length := by rw [← hA, List.length_append, mrg_len]
    have HA : Hid (acc ++ mrg xs ys = mrg ws ts) := hA
    have HO : Hid (wr.ownsRow w.heap.size 123 2 _ acc.length (itC acc)) := hO
    have HB : Hid (Below w.heap.size w wr) := hB
    have hsz := hB.size
    obtain ⟨a, cx, rfl, hcx, hXf⟩ := hX
    obtain ⟨b, cy, rfl, hcy, hYf⟩ := hY
    have HXF : Hid _ := hXf
    have HYF : Hid _ := hYf
    clear hXf hYf hA hO hB
    match xs, ys with
    | [], [] =>
      have HE : Hid (acc = mrg ws ts) := by unfold Hid; rw [← HA.out, mrg]; simp
      rw [HE.out] at HO
      clear HA HXF HYF HE
      simp only [List.length_nil]
      go_wp2
      go_ret
      exact ⟨_, rfl, HO.out, HB.out⟩
    | x0 :: xs, [] =>
      obtain ⟨gx, ox, rfl, hgx, hcellx⟩ := HXF.out (by simp)
      obtain ⟨ax, cx2, hslx, htx⟩ := NR.tail (x := x0) (zs := xs) (n := (x0 :: xs).length) rfl hcx hgx hcellx
      have HTL : Hid (NR w (.slice ax xs.length cx2) xs) := htx
      have HX0 : Hid (NR w (.slice (some ⟨gx, ox, none⟩) (x0 :: xs).length cx) (x0 :: xs)) := ⟨_, cx, rfl, hcx, fun _ => ⟨gx, ox, rfl, hgx, hcellx⟩⟩
      have c0 := hcellx 0 (by simp)
      rw [Nat.add_zero, ← HB.out.cell (p := ⟨gx, ox, none⟩) hgx] at c0
      simp only [List.getD_cons_zero] at c0
      have HY : Hid (NR w (.slice b 0 cy) []) := ⟨b, cy, rfl, Nat.zero_le _, fun h => absurd rfl h⟩
      have HMG : Hid (mrg (x0 :: xs) [] = ⟨x0, true⟩ :: mrg xs []) := by unfold Hid; rw [mrg]
      clear HX0
      obtain ⟨n, hn⟩ : ∃ z, z = (x0 :: xs).length := ⟨_, rfl⟩
      rw [← hn] at hslx hcx hal ⊢
      have hnp : 0 < n := by rw [hn]; simp
      have hnx : xs.length + 1 = n := by rw [hn]; simp
      have hni : (0 : Int) < (n : Int) := by omega
      have hnz : ((n : Int) == 0) = false := by simp; omega
      simp only [List.length_nil] at hal ⊢
      clear htx hcellx HXF HYF hn
      go_wp2
      go_quiet (fail)
      have HN2 : Hid _ := item_new (wr.drewN nq) (.int .i64 (x0 : Int)) (.bool true) 123
      have HOX : Hid ((wr.drewN nq).ownsRow w.heap.size 123 2 _ acc.length (itC acc)) := HO.out
      have hszX : w.heap.size ≤ (wr.drewN nq).heap.size := hsz
      have HBX : Hid (Below w.heap.size w (wr.drewN nq)) := below_drewH HB.out nq
      clear HO HB
      have c9 : (wr.drewN nq).cell? _ = _ := c0
      generalize (wr.drewN nq) = W2 at *
      go_wp2_with (at_builtin; refine wpList_append_own _ rfl _ _ 121 rfl w.heap.size 123 i0 (.agg #[.int .i64 0, .bool false]) 2 16 Try.underlying121 hi hz0 hz1 hz2 rfl (by decide) _ _ _ rfl (HOX.out.alloc _) ⟨W2.heap.size, 0, none⟩ 1 1 [.int .i64 (x0 : Int), .bool true] rfl rfl HN2.out (item_one _ _) ?c3 ?c4 ?c5 ?_)
      case c3 => unfold maxLen; omega
      case c4 => omega
      case c5 => first | omega | (rw [World.size_alloc]; omega)
      intro v8 w8 hown hg8 _
      have HO8 : Hid (w8.ownsRow w.heap.size 123 2 v8 (acc ++ [(⟨x0, true⟩ : Itm)]).length (itC (acc ++ [(⟨x0, true⟩ : Itm)]))) := by unfold Hid; rw [itC_snoc, List.length_append]; exact hown
      have HB8 : Hid (Below w.heap.size w w8) := (HBX.out.alloc hszX _).grown hg8 (by rw [World.size_alloc]; omega) (fun q hq => (HOX.out.lt q hq).1)
      clear hown hg8 HOX HBX HN2
      go_wp2
      go_roundw
      case rel => exact ⟨xs, [], acc ++ [(⟨x0, true⟩ : Itm)], HTL.out, HY.out, by rw [List.append_assoc, ← HA.out, HMG.out]; rfl, HO8.out, HB8.out⟩
      case measure => simp [lenQ]; try omega
    | [], y0 :: ys =>
      obtain ⟨gy, oy, rfl, hgy, hcelly⟩ := HYF.out (by simp)
      obtain ⟨ay, cy2, hsly, hty⟩ := NR.tail (x := y0) (zs := ys) (n := (y0 :: ys).length) rfl hcy hgy hcelly
      have HTL : Hid (NR w (.slice ay ys.length cy2) ys) := hty
      have HY0 : Hid (NR w (.slice (some ⟨gy, oy, none⟩) (y0 :: ys).length cy) (y0 :: ys)) := ⟨_, cy, rfl, hcy, fun _ => ⟨gy, oy, rfl, hgy, hcelly⟩⟩
      have d0 := hcelly 0 (by simp)
      rw [Nat.add_zero, ← HB.out.cell (p := ⟨gy, oy, none⟩) hgy] at d0
      simp only [List.getD_cons_zero] at d0
      have HX : Hid (NR w (.slice a 0 cx) []) := ⟨a, cx, rfl, Nat.zero_le _, fun h => absurd rfl h⟩
      have HMG : Hid (mrg [] (y0 :: ys) = ⟨y0, false⟩ :: mrg [] ys) := by unfold Hid; rw [mrg]
      clear HY0
      obtain ⟨m, hm⟩ : ∃ z, z = (y0 :: ys).length := ⟨_, rfl⟩
      rw [← hm] at hsly hcy hal ⊢
      have hmp : 0 < m := by rw [hm]; simp
      have hmx : ys.length + 1 = m := by rw [hm]; simp
      have hmi : (0 : Int) < (m : Int) := by omega
      have hmz : ((m : Int) == 0) = false := by simp; omega
      simp only [List.length_nil] at hal ⊢
      clear hty hcelly HXF HYF hm
      go_wp2
      go_quiet (fail)
      have HN2 : Hid _ := item_new (wr.drewN nq) (.int .i64 (y0 : Int)) (.bool false) 123
      have HOX : Hid ((wr.drewN nq).ownsRow w.heap.size 123 2 _ acc.length (itC acc)) := HO.out
      have hszX : w.heap.size ≤ (wr.drewN nq).heap.size := hsz
      have HBX : Hid (Below w.heap.size w (wr.drewN nq)) := below_drewH HB.out nq
      clear HO HB
      have c9 : (wr.drewN nq).cell? _ = _ := d0
      generalize (wr.drewN nq) = W2 at *
      go_wp2_with (at_builtin; refine wpList_append_own _ rfl _ _ 121 rfl w.heap.size 123 i0 (.agg #[.int .i64 0, .bool false]) 2 16 Try.underlying121 hi hz0 hz1 hz2 rfl (by decide) _ _ _ rfl (HOX.out.alloc _) ⟨W2.heap.size, 0, none⟩ 1 1 [.int .i64 (y0 : Int), .bool false] rfl rfl HN2.out (item_one _ _) ?c3 ?c4 ?c5 ?_)
      case c3 => unfold maxLen; omega
      case c4 => omega
      case c5 => first | omega | (rw [World.size_alloc]; omega)
      intro v8 w8 hown hg8 _
      have HO8 : Hid (w8.ownsRow w.heap.size 123 2 v8 (acc ++ [(⟨y0, false⟩ : Itm)]).length (itC (acc ++ [(⟨y0, false⟩ : Itm)]))) := by unfold Hid; rw [itC_snoc, List.length_append]; exact hown
      have HB8 : Hid (Below w.heap.size w w8) := (HBX.out.alloc hszX _).grown hg8 (by rw [World.size_alloc]; omega) (fun q hq => (HOX.out.lt q hq).1)
      clear hown hg8 HOX HBX HN2
      go_wp2
      go_roundw
      case rel => exact ⟨[], ys, acc ++ [(⟨y0, false⟩ : Itm)], HX.out, HTL.out, by rw [List.append_assoc, ← HA.out, HMG.out]; rfl, HO8.out, HB8.out⟩
      case measure => simp [lenQ]; try omega
    | x0 :: xs, y0 :: ys =>
      obtain ⟨gx, ox, rfl, hgx, hcellx⟩ := HXF.out (by simp)
      obtain ⟨ax, cx2, hslx, htx⟩ := NR.tail (x := x0) (zs := xs) (n := (x0 :: xs).length) rfl hcx hgx hcellx
      have HTX : Hid (NR w (.slice ax xs.length cx2) xs) := htx
      have HX : Hid (NR w (.slice (some ⟨gx, ox, none⟩) (x0 :: xs).length cx) (x0 :: xs)) := ⟨_, cx, rfl, hcx, fun _ => ⟨gx, ox, rfl, hgx, hcellx⟩⟩
      have c0 := hcellx 0 (by simp)
      rw [Nat.add_zero, ← HB.out.cell (p := ⟨gx, ox, none⟩) hgx] at c0
      simp only [List.getD_cons_zero] at c0
      obtain ⟨gy, oy, rfl, hgy, hcelly⟩ := HYF.out (by simp)
      obtain ⟨ay, cy2, hsly, hty⟩ := NR.tail (x := y0) (zs := ys) (n := (y0 :: ys).length) rfl hcy hgy hcelly
      have HTY : Hid (NR w (.slice ay ys.length cy2) ys) := hty
      have HY : Hid (NR w (.slice (some ⟨gy, oy, none⟩) (y0 :: ys).length cy) (y0 :: ys)) := ⟨_, cy, rfl, hcy, fun _ => ⟨gy, oy, rfl, hgy, hcelly⟩⟩
      have d0 := hcelly 0 (by simp)
      rw [Nat.add_zero, ← HB.out.cell (p := ⟨gy, oy, none⟩) hgy] at d0
      simp only [List.getD_cons_zero] at d0
      obtain ⟨n, hn⟩ : ∃ z, z = (x0 :: xs).length := ⟨_, rfl⟩
      obtain ⟨m, hm⟩ : ∃ z, z = (y0 :: ys).length := ⟨_, rfl⟩
      rw [← hn] at hslx hcx hal HX ⊢
      rw [← hm] at hsly hcy hal HY ⊢
      have hnp : 0 < n := by rw [hn]; simp
      have hmp : 0 < m := by rw [hm]; simp
      have hnx : xs.length + 1 = n := by rw [hn]; simp
      have hmx : ys.length + 1 = m := by rw [hm]; simp
      have hni : (0 : Int) < (n : Int) := by omega
      have hmi : (0 : Int) < (m : Int) := by omega
      have hmz : ((m : Int) == 0) = false := by simp; omega
      have hnm : (0 : Int) < (n : Int) + (m : Int) := by omega
      have HMR : Hid (mrg (x0 :: xs) (y0 :: ys) = if x0 ≤ y0 then ⟨x0, true⟩ :: mrg xs (y0 :: ys) else ⟨y0, false⟩ :: mrg (x0 :: xs) ys) := by unfold Hid; rw [mrg]
      clear htx hty hcellx hcelly HXF HYF hn hm
      by_cases hle : x0 ≤ y0
      · have hli : decide ((x0 : Int) ≤ (y0 : Int)) = true := by simp; omega
        have HMG : Hid (mrg (x0 :: xs) (y0 :: ys) = ⟨x0, true⟩ :: mrg xs (y0 :: ys)) := by unfold Hid; rw [HMR.out, if_pos hle]
        have HTL := HTX
        clear HMR HTX HTY HX
        go_wp2
        go_quiet (fail)
        have HN2 : Hid _ := item_new (wr.drewN nq) (.int .i64 (x0 : Int)) (.bool true) 123
        have HOX : Hid ((wr.drewN nq).ownsRow w.heap.size 123 2 _ acc.length (itC acc)) := HO.out
        have hszX : w.heap.size ≤ (wr.drewN nq).heap.size := hsz
        have HBX : Hid (Below w.heap.size w (wr.drewN nq)) := below_drewH HB.out nq
        clear HO HB
        have c9 : (wr.drewN nq).cell? _ = _ := c0
        generalize (wr.drewN nq) = W2 at *
        go_wp2_with (at_builtin; refine wpList_append_own _ rfl _ _ 121 rfl w.heap.size 123 i0 (.agg #[.int .i64 0, .bool false]) 2 16 Try.underlying121 hi hz0 hz1 hz2 rfl (by decide) _ _ _ rfl (HOX.out.alloc _) ⟨W2.heap.size, 0, none⟩ 1 1 [.int .i64 (x0 : Int), .bool true] rfl rfl HN2.out (item_one _ _) ?c3 ?c4 ?c5 ?_)
        case c3 => unfold maxLen; omega
        case c4 => omega
        case c5 => first | omega | (rw [World.size_alloc]; omega)
        intro v8 w8 hown hg8 _
        have HO8 : Hid (w8.ownsRow w.heap.size 123 2 v8 (acc ++ [(⟨x0, true⟩ : Itm)]).length (itC (acc ++ [(⟨x0, true⟩ : Itm)]))) := by unfold Hid; rw [itC_snoc, List.length_append]; exact hown
        have HB8 : Hid (Below w.heap.size w w8) := (HBX.out.alloc hszX _).grown hg8 (by rw [World.size_alloc]; omega) (fun q hq => (HOX.out.lt q hq).1)
        clear hown hg8 HOX HBX HN2
        go_wp2
        go_roundw
        case rel => exact ⟨xs, (y0 :: ys), acc ++ [(⟨x0, true⟩ : Itm)], HTL.out, HY.out, by rw [List.append_assoc, ← HA.out, HMG.out]; rfl, HO8.out, HB8.out⟩
        case measure => simp [lenQ]; try omega
      · have hli : decide ((x0 : Int) ≤ (y0 : Int)) = false := by simp; omega
        have HMG : Hid (mrg (x0 :: xs) (y0 :: ys) = ⟨y0, false⟩ :: mrg (x0 :: xs) ys) := by unfold Hid; rw [HMR.out, if_neg hle]
        have HTL := HTY
        clear HMR HTX HTY HY
        go_wp2
        go_quiet (fail)
        have HN2 : Hid _ := item_new (wr.drewN nq) (.int .i64 (y0 : Int)) (.bool false) 123
        have HOX : Hid ((wr.drewN nq).ownsRow w.heap.size 123 2 _ acc.length (itC acc)) := HO.out
        have hszX : w.heap.size ≤ (wr.drewN nq).heap.size := hsz
        have HBX : Hid (Below w.heap.size w (wr.drewN nq)) := below_drewH HB.out nq
        clear HO HB
        have c9 : (wr.drewN nq).cell? _ = _ := d0
        generalize (wr.drewN nq) = W2 at *
        go_wp2_with (at_builtin; refine wpList_append_own _ rfl _ _ 121 rfl w.heap.size 123 i0 (.agg #[.int .i64 0, .bool false]) 2 16 Try.underlying121 hi hz0 hz1 hz2 rfl (by decide) _ _ _ rfl (HOX.out.alloc _) ⟨W2.heap.size, 0, none⟩ 1 1 [.int .i64 (y0 : Int), .bool false] rfl rfl HN2.out (item_one _ _) ?c3 ?c4 ?c5 ?_)
        case c3 => unfold maxLen; omega
        case c4 => omega
        case c5 => first | omega | (rw [World.size_alloc]; omega)
        intro v8 w8 hown hg8 _
        have HO8 : Hid (w8.ownsRow w.heap.size 123 2 v8 (acc ++ [(⟨y0, false⟩ : Itm)]).length (itC (acc ++ [(⟨y0, false⟩ : Itm)]))) := by unfold Hid; rw [itC_snoc, List.length_append]; exact hown
        have HB8 : Hid (Below w.heap.size w w8) := (HBX.out.alloc hszX _).grown hg8 (by rw [World.size_alloc]; omega) (fun q hq => (HOX.out.lt q hq).1)
        clear hown hg8 HOX HBX HN2
        go_wp2
        go_roundw
        case rel => exact ⟨(x0 :: xs), ys, acc ++ [(⟨y0, false⟩ : Itm)], HX.out, HTL.out, by rw [List.append_assoc, ← HA.out, HMG.out]; rfl, HO8.out, HB8.out⟩
        case measure => simp [lenQ]; try omega
end Go.Proofs.Ytclmjopppaknjaa
