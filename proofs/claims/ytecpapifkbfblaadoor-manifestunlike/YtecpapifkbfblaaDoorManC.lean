/- Contract: Encode. -/
import Derived.Test.YtecpapifkbfblaaDoorManB
namespace Go.Proofs.YtecpapifkbfblaaDoor
open Go.RowKit
set_option linter.unusedVariables false

/-- What a manifest in form has. -/
structure Mf.good (m : Mf) : Prop where
  t0 : 0 ≤ m.t
  t1 : m.t ≤ 253402300799
  g : m.g.length ≤ 60
  p : m.p.length ≤ 64
  s0 : 1 ≤ m.s
  s1 : m.s ≤ 4194304
  n0 : 1 ≤ m.ch.length
  n1 : (m.ch.length : Int) ≤ m.s
  c : ∀ x ∈ m.ch, x.length = 32
theorem flat32 : ∀ l : List (List UInt8), (∀ x ∈ l, x.length = 32) → l.flatten.length = 32 * l.length
  | [], _ => rfl
  | x :: r, h => by
    have := flat32 r (fun y hy => h y (by simp [hy]))
    have := h x (by simp)
    simp only [List.flatten_cons, List.length_append, List.length_cons]
    omega
theorem form_good {m : Mf} (h : m.form = true) : m.good := by
  unfold Mf.form filB at h
  simp only [Bool.and_eq_true, Bool.or_eq_true, decide_eq_true_eq, List.all_eq_true] at h
  obtain ⟨⟨⟨⟨h0, h1⟩, h2⟩, h3⟩, ⟨⟨h4, h5⟩, h6⟩, h7⟩ := h
  refine ⟨h0, h1, ?_, ?_, by omega, h4, h5, h6, h7⟩
  · rcases h2 with h2 | h2
    · have : m.g = [] := by simpa using h2
      rw [this]; simp
    · rcases Nat.lt_or_ge 60 m.g.length with g | g
      · rw [nameL_false (.inr (.inl g))] at h2; cases h2
      · exact g
  · rcases h3 with h3 | h3
    · have : m.p = [] := by simpa using h3
      rw [this]; simp
    · unfold isNm at h3; simp at h3; omega
theorem encM_eq (m : Mf) (h0 : 0 ≤ m.t) (h1 : 0 ≤ m.s) : mkB (encM m) = (((((⟨#[115, 110, 97, 112]⟩ ++ mkB (vb m.t.toNat)) ++ mkB (txB m.g)) ++ mkB (txB m.p)) ++ mkB (vb m.s.toNat)) ++ mkB (vb m.ch.length)) ++ mkB m.ch.flatten := by
  rw [show (⟨#[115, 110, 97, 112]⟩ : ByteArray) = mkB [115, 110, 97, 112] from rfl, mkB_app, mkB_app, mkB_app, mkB_app, mkB_app, mkB_app]
  rfl
set_option maxRecDepth 100000 in
set_option maxHeartbeats 1000000 in
theorem encode_bad (m : Mf) (v : Value) (w : World) (hF : m.fit) (hT : TX w v m.ch) (hL : Lay11 w) (hf : m.form = false) :
    Calls Tryd.prog 12 #[mfV m v] w fun e w' => e = .returned (.tuple #[.string ⟨#[]⟩, .int .i64 4]) ∧ Below w.heap.size w w' := by
  obtain ⟨a, cap, rfl, hcap, hfc⟩ := id hT
  obtain ⟨X, hX⟩ : ∃ X, X = w.alloc (.cells #[.int .i64 m.t, .string (mkB m.g), .string (mkB m.p), .int .i64 m.s, .slice a m.ch.length cap] 37) := ⟨_, rfl⟩
  have hbX : Below w.heap.size w X := by rw [hX]; exact (Below.refl _ w).alloc (Nat.le_refl _) _
  have HI : Hid (Calls _ _ _ _ _) := check_c m _ X hF (hT.below hbX) (hL.below hbX) 4 (by rw [hf]; rfl)
  have hXH : X.heap[w.heap.size]? = some (.cells #[.int .i64 m.t, .string (mkB m.g), .string (mkB m.p), .int .i64 m.s, .slice a m.ch.length cap] 37 (0, 0)) := by rw [hX]; exact heap_alloc_new w _
  obtain ⟨⟨c0, c1, c2, c3, c4⟩, -⟩ := five_cell hXH
  have HFIN : Hid (∀ w', Below X.heap.size X w' → Below w.heap.size w w') := fun w' h => hbX.trans (h.mono hbX.size)
  clear hfc hT hL hF hXH hbX hf
  unfold mfV at *
  generalize m.ch.length = n at *
  generalize mkB m.g = G at *
  generalize mkB m.p = P at *
  generalize m.t = t at *
  generalize m.s = s at *
  go_enter Tryd.func12, Tryd.ntmps12
  go_upto_region 1 with fail
  rw [← hX]
  clear hX
  go_wp2_with fail
  refine HI.out.mono ?_
  rintro e w1 ⟨rfl, hb1⟩
  go_wp2
  exact bodyPost_ret (v := .tuple #[.string ⟨#[]⟩, .int .i64 4]) (by simp [results, Tryd.results12, go_sem]) rfl ⟨rfl, HFIN.out _ hb1⟩
set_option maxRecDepth 100000 in
set_option maxHeartbeats 1000000 in
theorem encode_good (m : Mf) (v : Value) (w : World) (hF : m.fit) (hT : TX w v m.ch) (hL : Lay11 w) (hf : m.form = true) :
    Calls Tryd.prog 12 #[mfV m v] w fun e w' => e = .returned (.tuple #[.string (mkB (encM m)), .int .i64 0]) ∧ Below w.heap.size w w' := by
  obtain ⟨g1, g2, g3, g4, g5, g6, g7, g8, g9⟩ := form_good hf
  have hfl := flat32 m.ch g9
  have HE : Hid (_ = _) := encM_eq m g1 (by omega)
  obtain ⟨a, cap, rfl, hcap, hfc⟩ := id hT
  obtain ⟨X, hX⟩ : ∃ X, X = w.alloc (.cells #[.int .i64 m.t, .string (mkB m.g), .string (mkB m.p), .int .i64 m.s, .slice a m.ch.length cap] 37) := ⟨_, rfl⟩
  have hbX : Below w.heap.size w X := by rw [hX]; exact (Below.refl _ w).alloc (Nat.le_refl _) _
  have HI : Hid (Calls _ _ _ _ _) := check_c m _ X hF (hT.below hbX) (hL.below hbX) 0 (by rw [hf]; rfl)
  have hXH : X.heap[w.heap.size]? = some (.cells #[.int .i64 m.t, .string (mkB m.g), .string (mkB m.p), .int .i64 m.s, .slice a m.ch.length cap] 37 (0, 0)) := by rw [hX]; exact heap_alloc_new w _
  have hXL : w.heap.size < X.heap.size := (Array.getElem?_eq_some_iff.1 hXH).1
  obtain ⟨⟨c0, c1, c2, c3, c4⟩, -⟩ := five_cell hXH
  have HFIN : Hid (∀ w', Below X.heap.size X w' → Below w.heap.size w w') := fun w' h => hbX.trans (h.mono hbX.size)
  have HCE : Hid (∀ w', Below X.heap.size X w' → _) := fun w' h => (five_cell ((h.block _ hXL).trans hXH)).1
  have HN1 : ∀ W, Calls Tryd.prog 24 #[.int .i64 m.t] W fun e w' => e = .returned (.string (mkB (vb m.t.toNat))) ∧ Below W.heap.size W w' := fun W => by
    have := mnum_any m.t.toNat W (by omega)
    rwa [Int.toNat_of_nonneg g1] at this
  have HN2 : ∀ W, Calls Tryd.prog 24 #[.int .i64 m.s] W fun e w' => e = .returned (.string (mkB (vb m.s.toNat))) ∧ Below W.heap.size W w' := fun W => by
    have := mnum_any m.s.toNat W (by omega)
    rwa [Int.toNat_of_nonneg (by omega)] at this
  have HN3 := fun W => mnum_any m.ch.length W (by omega)
  have HT1 := fun W => mtext_any m.g W (by omega)
  have HT2 := fun W => mtext_any m.p W (by omega)
  have HJ : ∀ W, Below X.heap.size X W → Calls Tryd.prog 26 #[.slice a m.ch.length cap, .string ⟨#[]⟩] W fun e w' => e = .returned (.string (mkB m.ch.flatten)) ∧ Below W.heap.size W w' := fun W h => mjoin_any m.ch _ W ((hT.below hbX).below h) (by omega) (by omega)
  have z1 : (mkB (vb m.t.toNat)).size ≤ 10 := by rw [mkB_size]; exact vb_len10 _ (by omega)
  have z2 : (mkB (vb m.s.toNat)).size ≤ 10 := by rw [mkB_size]; exact vb_len10 _ (by omega)
  have z3 : (mkB (vb m.ch.length)).size ≤ 10 := by rw [mkB_size]; exact vb_len10 _ (by omega)
  have z4 : (mkB (txB m.g)).size ≤ 100 := by rw [mkB_size]; unfold txB; rw [List.length_append]; have := vb_len10 m.g.length (by omega); omega
  have z5 : (mkB (txB m.p)).size ≤ 100 := by rw [mkB_size]; unfold txB; rw [List.length_append]; have := vb_len10 m.p.length (by omega); omega
  have z6 : (mkB m.ch.flatten).size ≤ 1000000000 := by rw [mkB_size, hfl]; omega
  clear hfc hT hL hF hXH hXL hbX hf g1 g2 g3 g4 g5 g6 g7 g8 g9 hfl
  unfold mfV at *
  generalize mkB (encM m) = E at *
  generalize mkB (vb m.t.toNat) = N1 at *
  generalize mkB (vb m.s.toNat) = N2 at *
  generalize mkB (vb m.ch.length) = N3 at *
  generalize mkB (txB m.g) = T1 at *
  generalize mkB (txB m.p) = T2 at *
  generalize mkB m.ch.flatten = J at *
  generalize m.ch.length = n at *
  generalize mkB m.g = G at *
  generalize mkB m.p = P at *
  generalize m.t = t at *
  generalize m.s = s at *
  have k1 : ¬ 9223372036854775807 < 4 + N1.size := by omega
  have j1 : 4 + N1.size ≤ 9223372036854775807 := by omega
  have k2 : ¬ 9223372036854775807 < 4 + N1.size + T1.size := by omega
  have j2 : 4 + N1.size + T1.size ≤ 9223372036854775807 := by omega
  have k3 : ¬ 9223372036854775807 < 4 + N1.size + T1.size + T2.size := by omega
  have j3 : 4 + N1.size + T1.size + T2.size ≤ 9223372036854775807 := by omega
  have k4 : ¬ 9223372036854775807 < 4 + N1.size + T1.size + T2.size + N2.size := by omega
  have j4 : 4 + N1.size + T1.size + T2.size + N2.size ≤ 9223372036854775807 := by omega
  have k5 : ¬ 9223372036854775807 < 4 + N1.size + T1.size + T2.size + N2.size + N3.size := by omega
  have j5 : 4 + N1.size + T1.size + T2.size + N2.size + N3.size ≤ 9223372036854775807 := by omega
  have k6 : ¬ 9223372036854775807 < 4 + N1.size + T1.size + T2.size + N2.size + N3.size + J.size := by omega
  have j6 : 4 + N1.size + T1.size + T2.size + N2.size + N3.size + J.size ≤ 9223372036854775807 := by omega
  clear z1 z2 z3 z4 z5 z6
  go_enter Tryd.func12, Tryd.ntmps12
  go_upto_region 1 with fail
  rw [← hX]
  clear hX
  go_wp2_with fail
  refine HI.out.mono ?_
  rintro e w1 ⟨rfl, hb1⟩
  go_upto_region 4 with fail
  clear c0 c1 c2 c3 c4 HI
  obtain ⟨c0, c1, c2, c3, c4⟩ := HCE.out _ hb1
  have HBT : Hid (∀ u v : World, Below X.heap.size X u → Below u.heap.size u v → Below X.heap.size X v) := fun u v hu hv => hu.trans (hv.mono hu.size)
  have hS0 : Below X.heap.size X w1.drew := hb1.drew
  clear hb1
  go_region_held3 (fun w' : World => w'.cell? ⟨w.heap.size, 0, none⟩ = some (.int .i64 t) ∧ w'.cell? ⟨w.heap.size, 1, none⟩ = some (.string G) ∧ w'.cell? ⟨w.heap.size, 2, none⟩ = some (.string P) ∧ w'.cell? ⟨w.heap.size, 3, none⟩ = some (.int .i64 s) ∧ w'.cell? ⟨w.heap.size, 4, none⟩ = some (.slice a n cap))
    (first | exact ⟨c0, c1, c2, c3, c4⟩ | exact HCE.out _ hch4)
    ((first | (go_at_call 24; (first | (with_reducible refine (HN1 _).mono ?_; rintro e w4 ⟨rfl, hb4⟩; have hch4 := HBT.out _ _ (by assumption) hb4) | (with_reducible refine (HN2 _).mono ?_; rintro e w4 ⟨rfl, hb4⟩; have hch4 := HBT.out _ _ (by assumption) hb4) | (with_reducible refine (HN3 _).mono ?_; rintro e w4 ⟨rfl, hb4⟩; have hch4 := HBT.out _ _ (by assumption) hb4))) | (go_at_call 25; (first | (with_reducible refine (HT1 _).mono ?_; rintro e w4 ⟨rfl, hb4⟩; have hch4 := HBT.out _ _ (by assumption) hb4) | (with_reducible refine (HT2 _).mono ?_; rintro e w4 ⟨rfl, hb4⟩; have hch4 := HBT.out _ _ (by assumption) hb4))) | (go_at_call 26; with_reducible refine (HJ _ (by assumption)).mono ?_; rintro e w4 ⟨rfl, hb4⟩; have hch4 := HBT.out _ _ (by assumption) hb4)))
  all_goals
    have HF : Hid (_) := HFIN.out _ hch4
    clear HCE HBT HN1 HN2 HN3 HT1 HT2 HJ
    go_wp2
    exact bodyPost_ret (v := .tuple #[.string (⟨#[115, 110, 97, 112]⟩ ++ N1 ++ T1 ++ T2 ++ N2 ++ N3 ++ J), .int .i64 0]) (by simp [results, Tryd.results12, go_sem]) rfl ⟨by rw [HE.out], HF.out⟩
end Go.Proofs.YtecpapifkbfblaaDoor
