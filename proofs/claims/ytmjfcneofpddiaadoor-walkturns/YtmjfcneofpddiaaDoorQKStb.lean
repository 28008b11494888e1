/- slices.stableCmpFunc at items of k cells: a row is sorted, whatever its length. -/
import Derived.Test.YtmjfcneofpddiaaDoorQKSym
namespace Go.Proofs.YtmjfcneofpddiaaDoor
open Go.RowKit Go.Shelf Go.Lib Go.Sort
set_option linter.unusedVariables false
set_option linter.unusedSimpArgs false
variable {P : Program} {k : Nat} {N : Nat} [Inhabited (Fin N)] {enc : Fin N → List Value} {w0 : World} {blk off : Nat} {d0 : Array (Fin N)}

/-- What is asked of insertionSortCmpFunc. -/
def KInsAt (P : Program) (k : Nat) (enc : Fin N → List Value) (w0 : World) (g : Nat) (cb : Array Value) (cf : Fin N → Fin N → Int) (blk off cap size : Nat) : Prop :=
  ∀ (dk : Array (Fin N)) (V : World) (a b : Nat), dk.size = size → SWK enc k w0 blk off dk V → a ≤ b → b ≤ size →
    Calls P 65 #[.slice (some ⟨blk, off, none⟩) size cap, .int .i64 (a : Int), .int .i64 (b : Int), .func (.func g) #[] cb] V fun e w' =>
      e = .returned (.tuple #[]) ∧ ∃ d', PermIn a b dk d' ∧ SortedIn (ltOf cf) a b d' ∧ SWK enc k w0 blk off d' w'
def KSymsAt (P : Program) (k : Nat) (enc : Fin N → List Value) (w0 : World) (g : Nat) (cb : Array Value) (cf : Fin N → Fin N → Int) (blk off cap size : Nat) : Prop :=
  ∀ a m b, a < m → m < b → b ≤ size → KSymAt P k enc w0 g cb cf blk off cap size a m b
/-- One merge more. -/
theorem SBk.merge {lt : Fin N → Fin N → Bool} {s q b n : Nat} {d d' : Array (Fin N)} (hs : 0 < s) (hb : b ≤ q * (2 * s) + 2 * s) (hn : b ≤ n) (h1 : SBk lt (2 * s) 0 (q * (2 * s)) d) (P : PermIn (q * (2 * s)) b d d') (S : SortedIn lt (q * (2 * s)) b d') : SBk lt (2 * s) 0 b d' :=
  (h1.keep P (.inl (Nat.le_refl _))).more (by omega) hb S
theorem SBk.left {lt : Fin N → Fin N → Bool} {s q n : Nat} {d : Array (Fin N)} (hs : 0 < s) (h : SBk lt s (q * (2 * s)) n d) (hn : q * (2 * s) + s ≤ n) : SortedIn lt (q * (2 * s)) (q * (2 * s) + s) d := by
  have e : q * (2 * s) = (2 * q) * s := by rw [← Nat.mul_assoc, Nat.mul_comm q 2]
  rw [e] at h hn ⊢
  exact h.sorted hs (Nat.le_refl _) (Nat.le_refl _) hn
theorem SBk.right {lt : Fin N → Fin N → Bool} {s q b n : Nat} {d : Array (Fin N)} (hs : 0 < s) (h : SBk lt s (q * (2 * s)) n d) (hb : b ≤ q * (2 * s) + 2 * s) (hn : b ≤ n) : SortedIn lt (q * (2 * s) + s) b d := by
  have e : q * (2 * s) + s = (2 * q + 1) * s := by rw [Nat.add_mul, Nat.one_mul, Nat.mul_comm 2 q, Nat.mul_assoc]
  rw [e]
  exact h.sorted hs (by omega) (by omega) hn
theorem SBk.rest {lt : Fin N → Fin N → Bool} {s q n : Nat} {d : Array (Fin N)} (hs : 0 < s) (h : SBk lt s (q * (2 * s)) n d) (hn : n ≤ q * (2 * s) + s) : SortedIn lt (q * (2 * s)) n d := by
  have e : q * (2 * s) = (2 * q) * s := by rw [← Nat.mul_assoc, Nat.mul_comm q 2]
  rw [e] at h hn ⊢
  exact h.sorted hs (Nat.le_refl _) hn (Nat.le_refl _)
set_option maxRecDepth 100000 in
set_option maxHeartbeats 4000000 in
theorem kstable_any (L : ItP P k) (g : Nat) (cb : Array Value) (egi : ∀ args w, (callFunc 65 args).run P w = .ok (.enter 65 args) w) (cf : Fin N → Fin N → Int) (cap : Nat) (d : Array (Fin N)) (W : World) (hW : SWK enc k w0 blk off d W) (hsz : d.size ≤ 1000000)
    (hI : KInsAt P k enc w0 g cb cf blk off cap d.size) (hM : KSymsAt P k enc w0 g cb cf blk off cap d.size) :
    Calls P 53 #[.slice (some ⟨blk, off, none⟩) d.size cap, .int .i64 (d.size : Int), .func (.func g) #[] cb] W fun e w' =>
      e = .returned (.tuple #[]) ∧ ∃ d', PermIn 0 d.size d d' ∧ SortedIn (ltOf cf) 0 d.size d' ∧ SWK enc k w0 blk off d' w' := by
  have HST : Hid (SWK enc k w0 blk off d W) := hW
  have HI : Hid _ := hI
  have HM : Hid _ := hM
  clear hI hM hW
  have mixed := L.mixed; have t3 := L.t3; have a3 := L.a3; have z3 := L.z3; have v3 := L.v3; have t4 := L.t4; have a4 := L.a4; have z4 := L.z4; have v4 := L.v4; have t22 := L.t22; have a22 := L.a22; have z22 := L.z22; have v22 := L.v22; have aE := L.aE; have zE := L.zE
  have tU := L.tU; have aU := L.aU; have zU := L.zU; have vU := L.vU
  have u22 := run_underlying L.t22; have u3 := run_underlying L.t3; have uU := run_underlying L.tU
  have F := L.fstb
  have egs : ∀ args w, (callFunc 66 args).run P w = .ok (.enter 66 args) w := fun args w => enters_of L.fsym (by kernel_rfl) rfl args w
  clear L
  obtain ⟨n, hn⟩ : ∃ n, n = d.size := ⟨_, rfl⟩
  have HN : Hid (_ = _) := hn
  rw [← hn] at hsz ⊢
  rw [← hn] at HI HM
  clear hn
  go_enter F, Tryd.ntmps53
  go_wp2
  go_loopw [7, 8] (fun u v wr => ∃ (q A B : Nat) (dk : Array (Fin N)), u = .int .i64 (A : Int) ∧ v = .int .i64 (B : Int) ∧ Hid (A = q * 20 ∧ B = q * 20 + 20) ∧ A ≤ n ∧ Hid (PermIn 0 n d dk) ∧ Hid (SBk (ltOf cf) 20 0 (q * 20) dk) ∧ Hid (SWK enc k w0 blk off dk wr)) (fun _ v _ => n + 21 - (intOf v).toNat)
  case atStart => exact ⟨0, 0, 20, d, rfl, rfl, ⟨rfl, rfl⟩, by omega, permIn_refl _ _ _, fun i j h1 h2 h3 => by omega, HST⟩
  case round =>
    obtain ⟨q, A, B, dk, rfl, rfl, HAB, hA, HP, HB, HV⟩ := hrel
    have hds : dk.size = n := by rw [HP.out.1, HN.out]
    by_cases hlt : B ≤ n
    · have hlti : (B : Int) ≤ (n : Int) := by omega
      have HINS : Hid _ := HI.out dk wr A B hds HV.out (by have := HAB.out; omega) hlt
      go_wp2_with fail
      refine (Hid.out HINS : Calls _ _ _ _ _).mono ?_
      rintro e w1 ⟨rfl, d', q1, q2, hV1⟩
      have HV1 : Hid (SWK _ _ _ _ _ _ _) := hV1
      clear hV1
      have HP2 : Hid (PermIn 0 n d d') := permIn_trans _ _ _ _ _ HP.out (permIn_mono _ _ _ _ _ _ (by omega) hlt (by omega) q1)
      have HB2 : Hid (SBk (ltOf cf) 20 0 ((q + 1) * 20) d') := by
        obtain ⟨hA, hB⟩ := HAB.out
        rw [hA, hB] at q1 q2
        have := (HB.out.keep q1 (.inl (Nat.le_refl _))).more (by omega) (Nat.le_refl _) q2
        rw [show (q + 1) * 20 = q * 20 + 20 by omega]; exact this
      have HAB2 : Hid (B = (q + 1) * 20 ∧ B + 20 = (q + 1) * 20 + 20) := by have := HAB.out; exact ⟨by omega, by omega⟩
      have hB1 : 20 ≤ B := by have := HAB.out; omega
      clear q1 q2 HP HB HAB
      go_wp2
      go_roundw
      case rel => exact ⟨q + 1, B, B + 20, d', rfl, by go_num, HAB2, by omega, HP2, HB2, HV1⟩
      case measure => simp [intOf]; omega
    · have hlti : ¬ (B : Int) ≤ (n : Int) := by omega
      have HINS : Hid _ := HI.out dk wr A n hds HV.out hA (Nat.le_refl _)
      go_wp2_with fail
      refine (Hid.out HINS : Calls _ _ _ _ _).mono ?_
      rintro e w1 ⟨rfl, d', q1, q2, hV1⟩
      have HV1 : Hid (SWK _ _ _ _ _ _ _) := hV1
      clear hV1
      have HP2 : Hid (PermIn 0 n d d') := permIn_trans _ _ _ _ _ HP.out (permIn_mono _ _ _ _ _ _ (by omega) (Nat.le_refl _) (by omega) q1)
      have HB2 : Hid (SBk (ltOf cf) 20 0 n d') := by
        obtain ⟨hA, hB⟩ := HAB.out
        rw [hA] at q1 q2
        exact (HB.out.keep q1 (.inl (Nat.le_refl _))).more (by omega) (by omega) q2
      clear q1 q2 HP HB HAB HINS hds
      go_wp2
      go_loopw [6] (fun u wr => ∃ (s : Nat) (dk : Array (Fin N)), u = .int .i64 (s : Int) ∧ 20 ≤ s ∧ s ≤ 2000000 ∧ Hid (PermIn 0 n d dk) ∧ Hid (SBk (ltOf cf) s 0 n dk) ∧ Hid (SWK enc k w0 blk off dk wr)) (fun u _ => 2000001 - (intOf u).toNat)
      case atStart => exact ⟨20, d', rfl, by omega, by omega, HP2, HB2, HV1⟩
      case round =>
        clear HP2 HB2
        obtain ⟨s, dk, rfl, hs20, hsu, HP, HB, HV⟩ := hrel
        by_cases hlt : s < n
        · have hlti : (s : Int) < (n : Int) := by omega
          go_wp2
          go_loopw [7, 8] (fun u v wr => ∃ (q A B : Nat) (dk : Array (Fin N)), u = .int .i64 (A : Int) ∧ v = .int .i64 (B : Int) ∧ Hid (A = q * (2 * s)) ∧ B = A + 2 * s ∧ A ≤ n ∧ Hid (PermIn 0 n d dk) ∧ Hid (SBk (ltOf cf) (2 * s) 0 (q * (2 * s)) dk) ∧ Hid (SBk (ltOf cf) s (q * (2 * s)) n dk) ∧ Hid (SWK enc k w0 blk off dk wr)) (fun _ v _ => n + 2 * s + 1 - (intOf v).toNat)
          case atStart => exact ⟨0, 0, 2 * s, dk, rfl, by go_num, by unfold Hid; omega, by omega, by omega, HP, fun i j h1 h2 h3 => by omega, by rw [Nat.zero_mul]; exact HB, HV⟩
          case round =>
            clear HP HB
            obtain ⟨q, A, B, dk, rfl, rfl, HA, hB, hA, HP, HB1, HB2, HV⟩ := hrel
            have hds : dk.size = n := by rw [HP.out.1, HN.out]
            have HBE : Hid (B = A + 2 * s) := hB
            have hAs : A + s ≤ B ∧ A < A + s ∧ A + s < B := by omega
            have hBb : B ≤ 5000000 := by omega
            have hB20 : 40 ≤ B := by omega
            by_cases hlb : B ≤ n
            · have hlbi : (B : Int) ≤ (n : Int) := by omega
              clear hB
              obtain ⟨C, hC⟩ : ∃ C : Nat, (A : Int) + (s : Int) = (C : Int) ∧ C = A + s := ⟨A + s, by omega, rfl⟩
              have hS1 : SortedIn (ltOf cf) A C dk := by
                have := HB2.out.left (by omega) (by rw [← HA.out]; omega)
                rw [← HA.out, ← hC.2] at this; exact this
              have hS2 : SortedIn (ltOf cf) C B dk := by
                have := HB2.out.right (b := B) (by omega) (by have := HBE.out; rw [← HA.out]; omega) hlb
                rw [← HA.out, ← hC.2] at this; exact this
              have HMM : Hid _ := HM.out A C B (by omega) (by omega) hlb dk _ hds HV.out hS1 hS2
              have hC1 := hC.1
              clear hC hS1 hS2
              go_wp2_with fail
              refine (Hid.out HMM : Calls _ _ _ _ _).mono ?_
              rintro e w1 ⟨rfl, d', q1, q2, hV1⟩
              have HV1 : Hid (SWK _ _ _ _ _ _ _) := hV1
              clear hV1
              have HP2 : Hid (PermIn 0 n d d') := permIn_trans _ _ _ _ _ HP.out (permIn_mono _ _ _ _ _ _ (by omega) hlb (by omega) q1)
              have hAB : B = (q + 1) * (2 * s) := by have := HA.out; have := HBE.out; rw [Nat.add_mul, Nat.one_mul]; omega
              have HB1' : Hid (SBk (ltOf cf) (2 * s) 0 ((q + 1) * (2 * s)) d') := by
                rw [← hAB]
                rw [HA.out] at q1 q2
                exact HB1.out.merge (n := n) (by omega) (by have := HA.out; have := HBE.out; omega) hlb q1 q2
              have HB2' : Hid (SBk (ltOf cf) s ((q + 1) * (2 * s)) n d') := by
                rw [← hAB]
                exact (HB2.out.later (by have := HA.out; have := HBE.out; omega)).keep q1 (.inr (Nat.le_refl _))
              have HAB : Hid (B = (q + 1) * (2 * s)) := hAB
              clear q1 q2 HP HB1 HB2 HMM hAB
              obtain ⟨D, hD, HD⟩ : ∃ D : Nat, (B : Int) + 2 * (s : Int) = (D : Int) ∧ Hid (D = B + 2 * s) := ⟨B + 2 * s, by omega, rfl⟩
              go_wp2
              go_roundw
              case rel => exact ⟨q + 1, B, D, d', rfl, by first | rfl | go_num, HAB, HD.out, by omega, HP2, HB1', HB2', HV1⟩
              case measure => have := HD.out; simp [intOf]; omega
            · have hlbi : ¬ (B : Int) ≤ (n : Int) := by omega
              clear hB
              obtain ⟨C, hC⟩ : ∃ C : Nat, (A : Int) + (s : Int) = (C : Int) ∧ C = A + s := ⟨A + s, by omega, rfl⟩
              have hC1 := hC.1
              obtain ⟨D, hD, HD⟩ : ∃ D : Nat, (s : Int) * 2 = (D : Int) ∧ Hid (D = 2 * s) := ⟨2 * s, by omega, by show _ = _; omega⟩
              by_cases hcn : C < n
              · have hcni : (C : Int) < (n : Int) := by omega
                have hS1 : SortedIn (ltOf cf) A C dk := by
                  have := HB2.out.left (by omega) (by rw [← HA.out]; omega)
                  rw [← HA.out, ← hC.2] at this; exact this
                have hS2 : SortedIn (ltOf cf) C n dk := by
                  have := HB2.out.right (b := n) (by omega) (by have := HBE.out; rw [← HA.out]; omega) (Nat.le_refl _)
                  rw [← HA.out, ← hC.2] at this; exact this
                have HMM : Hid _ := HM.out A C n (by omega) hcn (Nat.le_refl _) dk _ hds HV.out hS1 hS2
                clear hC hS1 hS2
                go_wp2_with fail
                refine (Hid.out HMM : Calls _ _ _ _ _).mono ?_
                rintro e w1 ⟨rfl, d', q1, q2, hV1⟩
                have HV1 : Hid (SWK _ _ _ _ _ _ _) := hV1
                clear hV1
                have HP2 : Hid (PermIn 0 n d d') := permIn_trans _ _ _ _ _ HP.out (permIn_mono _ _ _ _ _ _ (by omega) (Nat.le_refl _) (by omega) q1)
                have HB1' : Hid (SBk (ltOf cf) D 0 n d') := by
                  rw [HD.out]
                  rw [HA.out] at q1 q2
                  exact HB1.out.merge (n := n) (by omega) (by have := HA.out; have := HBE.out; omega) (Nat.le_refl _) q1 q2
                clear q1 q2 HP HB1 HB2 HMM
                go_wp2
                go_roundw
                case rel => exact ⟨D, d', rfl, by have := HD.out; omega, by have := HD.out; omega, HP2, HB1', HV1⟩
                case measure => have := HD.out; simp [intOf]; omega
              · have hcni : ¬ (C : Int) < (n : Int) := by omega
                have HB1' : Hid (SBk (ltOf cf) D 0 n dk) := by
                  rw [HD.out]
                  have h1 := HB2.out.rest (by omega) (by rw [← HA.out]; omega)
                  exact HB1.out.more (by omega) (by have := HA.out; have := HBE.out; omega) h1
                clear hC HB1 HB2
                go_wp2
                go_roundw
                case rel => exact ⟨D, dk, rfl, by have := HD.out; omega, by have := HD.out; omega, HP, HB1', HV⟩
                case measure => have := HD.out; simp [intOf]; omega
        · have hlti : ¬ (s : Int) < (n : Int) := by omega
          have HF : Hid (SortedIn (ltOf cf) 0 n dk) := HB.out.whole (by omega)
          go_wp2
          exact bodyPost_end (results_none rfl _ _ _) rfl ⟨rfl, dk, HP.out, HF.out, HV.out⟩
end Go.Proofs.YtmjfcneofpddiaaDoor
