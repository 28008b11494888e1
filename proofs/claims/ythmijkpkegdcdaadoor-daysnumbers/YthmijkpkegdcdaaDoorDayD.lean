/- Contracts of the document's Two and Date, and of the law's awake. -/
import Derived.Test.YthmijkpkegdcdaaDoorDayO
import Derived.Test.YthmijkpkegdcdaaDoorU8
namespace Go.Proofs.YthmijkpkegdcdaaDoor
open Go.RowKit
set_option linter.unusedVariables false

/-- Two digits, closed to the walk. -/
def twoS (x : Int) : ByteArray := bs (two x.toNat)
theorem twoS_size (x : Int) : (twoS x).size = 2 := by unfold twoS; rw [bs_size2]; rfl
theorem two_own (W : World) (a b : Nat) : (W.alloc (.cells #[.int .u8 (a : Int), .int .u8 (b : Int)] 5)).ownsRow W.heap.size 5 1 (.slice (some ⟨W.heap.size, 0, none⟩) 2 2) 2 (cs [a, b]) :=
  ⟨rfl, .inr ⟨W.heap.size, 2, _, rfl, Nat.le_refl _, heap_alloc_new _ _, Nat.le_refl _, by decide, rfl, rfl⟩⟩
set_option maxRecDepth 100000 in
set_option maxHeartbeats 400000 in
theorem two_any (x : Int) (w : World) (h0 : 0 ≤ x) (h1 : x ≤ 1000000000) :
    Calls Tryd.prog 20 #[.int .i64 x] w fun e w' => e = .returned (.string (twoS x)) ∧ Below w.heap.size w w' := by
  obtain ⟨n, rfl⟩ := Int.eq_ofNat_of_zero_le h0
  have HT : Hid (twoS (n : Int) = bs [48 + n / 10 % 10, 48 + n % 10]) := by unfold Hid twoS two; rw [Int.toNat_natCast]
  have hc := conv_bs (P := Tryd.prog) (dst := 9) (l := [48 + n / 10 % 10, 48 + n % 10]) Tryd.underlying39 Tryd.underlying5 Tryd.underlying9 (two_own w (48 + n / 10 % 10) (48 + n % 10))
  rw [← HT.out] at hc
  have e1 : ((48 + n / 10 % 10 : Nat) : Int) = 48 + (n : Int) / 10 % 10 := by omega
  have e2 : ((48 + n % 10 : Nat) : Int) = 48 + (n : Int) % 10 := by omega
  rw [e1, e2] at hc
  clear e1 e2 HT
  generalize twoS (n : Int) = T at *
  go_enter Tryd.func20, Tryd.ntmps20
  go_wp2
  go_ret
  exact ⟨rfl, (Below.refl _ w).alloc (Nat.le_refl _) _⟩
theorem dateS_two (d : Nat) : dateS d = twoS ((yrN (mon d) : Int) / 100) ++ twoS ((yrN (mon d) : Int) % 100) ++ ⟨#[45]⟩ ++ twoS (moN (mon d) : Int) ++ ⟨#[45]⟩ ++ twoS ((d : Int) - (SM (mon d) : Int) + 1) := by
  have hm := (mon_in d).1
  unfold twoS
  rw [dateS_eq, Int.toNat_natCast, show ((yrN (mon d) : Int) / 100).toNat = yrN (mon d) / 100 by omega, show ((yrN (mon d) : Int) % 100).toNat = yrN (mon d) % 100 by omega, show ((d : Int) - (SM (mon d) : Int) + 1).toNat = domN d by unfold domN; omega, bs_append2]
set_option maxRecDepth 100000 in
set_option maxHeartbeats 1000000 in
theorem rdate_any (t : Nat) (w : World) (h : t ≤ 253402300799) :
    Calls Tryd.prog 13 #[.int .i64 t] w fun e w' => e = .returned (.string (dateS (t / 86400))) ∧ Below w.heap.size w w' := by
  have HD := fun W => rday_any t W h
  have hq : t / 86400 ≤ 2932896 := by omega
  have HO := of_any (t / 86400) w hq
  have hm := mon_le hq
  have hs := (mon_in (t / 86400)).1
  have HE : Hid (_ = _) := dateS_two (t / 86400)
  rw [mC_eq] at HO
  have b1 : yrN (mon (t / 86400)) ≤ 9999 := by unfold yrN; omega
  have b2 : moN (mon (t / 86400)) ≤ 12 := by unfold moN; omega
  have hz := twoS_size
  generalize dateS (t / 86400) = R at *
  generalize SM (mon (t / 86400)) = B at *
  generalize MDn (mon (t / 86400)) = D at *
  generalize yrN (mon (t / 86400)) = Y at *
  generalize moN (mon (t / 86400)) = M at *
  generalize mon (t / 86400) = N at *
  clear hm
  generalize t / 86400 = q at *
  go_enter Tryd.func13, Tryd.ntmps13
  go_wp2_with fail
  refine (HD w).mono ?_
  rintro e w1 ⟨rfl, rfl⟩
  go_wp2_with fail
  refine HO.mono ?_
  rintro e w2 ⟨rfl, hb2⟩
  go_upto_region 2 with fail
  have HX : Hid (_ = _) := heap_alloc_new w2 (.cells #[.int .i64 (N : Int), .int .i64 (Y : Int), .int .i64 (M : Int), .int .i64 (B : Int), .int .i64 (D : Int)] 30)
  have HBX : Hid (Below w1.heap.size w1 _) := hb2.alloc hb2.size (.cells #[.int .i64 (N : Int), .int .i64 (Y : Int), .int .i64 (M : Int), .int .i64 (B : Int), .int .i64 (D : Int)] 30)
  generalize w2.heap.size = b at *
  generalize World.alloc w2 _ = W at *
  obtain ⟨⟨-, c1, c2, c3, -⟩, -⟩ := m_cells HX.out
  have hlt : b < W.heap.size := (Array.getElem?_eq_some_iff.1 HX.out).1
  have HKE : Hid (∀ w', Below W.heap.size W w' → w'.cell? ⟨b, 1, none⟩ = some (.int .i64 (Y : Int)) ∧ w'.cell? ⟨b, 2, none⟩ = some (.int .i64 (M : Int)) ∧ w'.cell? ⟨b, 3, none⟩ = some (.int .i64 (B : Int))) := fun w' hb => ⟨(hb.cell (p := ⟨b, 1, none⟩) hlt).trans c1, (hb.cell (p := ⟨b, 2, none⟩) hlt).trans c2, (hb.cell (p := ⟨b, 3, none⟩) hlt).trans c3⟩
  have HBT : Hid (∀ u v : World, Below W.heap.size W u → Below u.heap.size u v → Below W.heap.size W v) := fun u v hu hv => hu.trans (hv.mono hu.size)
  have HDD : Hid (∀ W, _) := HD
  have hS0 : Below W.heap.size W W.drew := (Below.refl _ _).drew
  have t1 : (Y : Int).tdiv 100 = (Y : Int) / 100 := Int.tdiv_eq_ediv_of_nonneg (by omega)
  have t2 : (Y : Int).tmod 100 = (Y : Int) % 100 := Int.tmod_eq_emod_of_nonneg (by omega)
  have t3 : IntKind.i64.wrap ((Y : Int) / 100) = (Y : Int) / 100 := by rw [IntKind.wrap_i64]; omega
  have t4 : IntKind.i64.wrap ((q : Int) - (B : Int)) = (q : Int) - (B : Int) := by rw [IntKind.wrap_i64]; omega
  have t5 : IntKind.i64.wrap ((q : Int) - (B : Int) + 1) = (q : Int) - (B : Int) + 1 := by rw [IntKind.wrap_i64]; omega
  clear HD HO HX hlt hb2
  go_region_held3 (fun w' : World => w'.cell? ⟨b, 1, none⟩ = some (.int .i64 (Y : Int)) ∧ w'.cell? ⟨b, 2, none⟩ = some (.int .i64 (M : Int)) ∧ w'.cell? ⟨b, 3, none⟩ = some (.int .i64 (B : Int)))
    (first | exact ⟨c1, c2, c3⟩ | exact HKE.out _ hch4)
    ((first | (go_at_call 20; refine (two_any _ _ (by omega) (by omega)).mono ?_; rintro e w4 ⟨rfl, hb4⟩; have hch4 := HBT.out _ _ (by assumption) hb4) | (go_at_call 14; refine (HDD.out _).mono ?_; rintro e w5 ⟨rfl, e5⟩; have e6 := e5.symm; subst e6)))
  all_goals
    have HF : Hid (Below w1.heap.size w1 w4) := HBX.out.trans (hch4.mono HBX.out.size)
    clear HKE HBT HDD HBX t1 t2 t3 t4 t5
    go_wp2
    go_ret
    exact ⟨by rw [HE.out]; rfl, HF.out⟩
theorem SM432 : SM 432 = 13149 := by rw [show 432 = 12 * 36 from rfl, SM_year]; decide
theorem SM_succ (n : Nat) : SM (n + 1) = SM n + MDn n := rfl
theorem mon_aw : mon 13150 = 432 := by
  have h := SM432
  have h1 := SM_succ 432
  have h2 := MDn_ge 432
  generalize h3 : SM 432 = s at *
  generalize h4 : SM (432 + 1) = s' at *
  exact mon_of (by rw [h3]; omega) (by rw [h4]; omega)
theorem dayL_of {d n s : Nat} (h : mon d = n) (hs : SM n = s) : dayL d = dateL (yrN n) (moN n) (d - s + 1) := by subst h; subst hs; rfl
theorem date_aw : dateS 13150 = ⟨#[50, 48, 48, 54, 45, 48, 49, 45, 48, 50]⟩ := by
  apply ba_ext
  rw [dateS_data, dayL_of mon_aw SM432]
  decide
set_option maxRecDepth 100000 in
set_option maxHeartbeats 1000000 in
theorem awake20_any (w : World) (hT : PT w) : Calls Tryd.prog 9 #[] w fun e w' => e = .returned (.bool true) ∧ Below w.heap.size w w' := by
  have H1 := date_any 1136214245 w (by decide) hT
  have H2 := fun W => day_any 1136214245 W (by decide)
  have H3 := fun W => week_any 1136214245 W (by decide)
  have H4 := fun W => month_any 1136214245 W (by decide)
  rw [show 1136214245 / 86400 = 13150 from by decide, date_aw] at H1
  simp only [show 1136214245 / 86400 = 13150 from by decide, mon_aw] at H2 H3 H4
  go_enter Tryd.func9, Tryd.ntmps9
  go_wp2_with fail
  refine H1.mono ?_
  rintro e w1 ⟨rfl, hb1⟩
  go_wp2_with fail
  refine (H2 _).mono ?_
  rintro e w2 ⟨rfl, rfl⟩
  go_wp2_with fail
  refine (H3 _).mono ?_
  rintro e w2 ⟨rfl, rfl⟩
  go_wp2_with fail
  refine (H4 _).mono ?_
  rintro e w2 ⟨rfl, rfl⟩
  go_wp2
  go_ret
  exact ⟨rfl, hb1⟩
end Go.Proofs.YthmijkpkegdcdaaDoor
