/- Contract of the document's Next. -/
import Derived.Test.YtbkaeibjhnndfabRefN
namespace Go.Proofs.Ytbkaeibjhnndfab
open Go.RowKit
set_option linter.unusedVariables false

set_option maxRecDepth 100000 in
set_option maxHeartbeats 2000000 in
theorem rnext_any (vi vc vr : Value) (zs : List Int) (L : List Bool) (C p j : Nat) (y er : Int) (w : World) (hI : IR w vi zs) (hU : UR w vc zs.length (cdOf (toN zs))) (hO : OB w C vr L) (he : errN zs = 0) (hL : L.length ≤ 1000000) (hp : p ≤ L.length) (hj : j < 15)
    (hN : NextR (toN zs) (fun i => L.getD (p + i) false) (L.length - p) j y er) :
    Calls Try.prog 17 #[vi, vc, vr, .int .i64 (p : Int)] w fun e w' => e = .returned (.tuple #[.int .i64 y, .int .i64 ((j + 1 : Nat) : Int), .int .i64 er]) ∧ w' = w := by
  obtain ⟨h320, h15, hfit⟩ := errN_zero he
  have hS := next_steps (toN zs) h15.all hfit _ _ _ _ _ hN
  rw [toN_len] at hS
  obtain ⟨S1, S2, S3⟩ := hS
  have HNB : Hid (∀ n : Nat, n ≤ 32 → Calls Try.prog 32 #[vr, .int .i64 (p : Int), .int .i64 (n : Int), .bool true] w fun e w' => e = .returned (.int .u32 (turnN (fun i => L.getD (p + i) false) n : Int)) ∧ w' = w) := fun n hn => number_high vr L C p n w hO hL (by omega) hn
  obtain ⟨gr, capr, rfl, _⟩ := hO
  obtain ⟨gi, capi, rfl, hgi, hci⟩ := hI
  obtain ⟨gu, capu, rfl, hgu, hcu⟩ := hU
  have HCI : Hid (∀ i, i < zs.length → w.cell? ⟨gi, i, none⟩ = some (.int .i64 (ln (toN zs) i : Int))) := fun i hi => by rw [hci i hi, toN_ln zs i hi (h15 i hi).1]
  have HCU : Hid (∀ i, i < zs.length → w.cell? ⟨gu, i, none⟩ = some (.int .u32 (cdOf (toN zs) i : Int))) := hcu
  have HL15 : Hid (∀ i, ln (toN zs) i ≤ 15) := fun i => h15.all.at i
  have HTL : Hid (∀ n, n ≤ 32 → turnN (fun i => L.getD (p + i) false) n < 4294967296) := fun n hn => turnN_lt32 _ n hn
  have HSH : Hid (∀ x k : Nat, (x : Int) / 2 ^ k = ((x / 2 ^ k : Nat) : Int)) := fun x k => by simp
  have H1 : Hid (_ ) := S1
  have H2 : Hid (_ ) := S2
  have H3 : Hid (_ ) := S3
  clear S1 S2 S3 hci hcu hN he hfit h15
  generalize hf : (fun i => L.getD (p + i) false) = f at *
  clear hf
  generalize hLL : L.length = LL at *
  generalize toN zs = ns at *
  have hz320 : zs.length ≤ 320 := h320
  generalize zs.length = K at *
  go_enter Try.func17, Try.ntmps17
  go_wp2
  go_loop [11] (fun i => ∃ n : Nat, 1 ≤ n ∧ n ≤ j + 1 ∧ i = .int .i64 (n : Int)) (fun i => 20 - (intOf i).toNat)
  case atStart => exact ⟨1, by omega, by omega, rfl⟩
  case round =>
    obtain ⟨n, hn1, hnj, rfl⟩ := hrel
    by_cases hlen : LL < p + n
    · have hli : (LL : Int) < (p : Int) + (n : Int) := by omega
      have e1 : n = j + 1 := by
        by_cases hle : n ≤ j
        · have := (H1.out n (by omega) hle).1; omega
        · omega
      subst e1
      obtain ⟨rfl, rfl⟩ := H2.out (by omega)
      go_wp2
      go_ret3
      exact ⟨by go_num, rfl⟩
    · have hli : ¬ (LL : Int) < (p : Int) + (n : Int) := by omega
      have HNn := HNB.out n (by omega)
      have HNn' : Hid (Calls _ _ _ _ _) := HNn
      have hxlt := HTL.out n (by omega)
      clear HNn
      have HA : Hid (n ≤ j → (∀ s, s < K → ¬ MN ns (turnN f n) n s) ∧ ∃ s, s < K ∧ BN ns (turnN f n) n s) := fun h => (H1.out n (by omega) h).2
      have HZ : Hid (n = j + 1 → (∀ s, s < K → MN ns (turnN f n) n s → y = (s : Int) ∧ er = 0) ∧ ((∀ s, s < K → ¬ MN ns (turnN f n) n s) → (¬ ∃ s, s < K ∧ BN ns (turnN f n) n s) ∧ y = 0 ∧ er = 3)) := fun h => by subst h; exact H3.out (by omega)
      generalize turnN f n = x at *
      go_wp2_with fail
      refine (Hid.out HNn' : Calls _ _ _ _ _).mono ?_
      rintro e w1 ⟨rfl, rfl⟩
      clear HNn'
      go_wp2
      go_loop [13, 32] (fun b i => ∃ (k : Nat) (bb : Bool), k ≤ K ∧ i = .int .i64 (k : Int) ∧ b = .bool bb ∧ (bb = true ↔ ∃ s, s < k ∧ BN ns x n s) ∧ ∀ s, s < k → ¬ MN ns x n s) (fun _ i => K - (intOf i).toNat)
      case atStart => exact ⟨0, false, by omega, rfl, rfl, by simp, fun s hs => by omega⟩
      case round =>
        obtain ⟨k, bb, hk, rfl, rfl, hbb, hnm⟩ := hrel
        have HBB : Hid (bb = true ↔ ∃ s, s < k ∧ BN ns x n s) := hbb
        have HNM : Hid (∀ s, s < k → ¬ MN ns x n s) := hnm
        clear hbb hnm
        by_cases hlt : k < K
        · have hci := HCI.out k hlt
          have hcu := HCU.out k hlt
          have hl15 := HL15.out k
          have hki : (k : Int) < (K : Int) := by omega
          have hki0 : (0 : Int) ≤ (k : Int) := by omega
          have hsh := HSH.out (cdOf ns k) (ln ns k - n)
          have HBk : Hid (BN ns x n k ↔ n ≤ ln ns k ∧ cdOf ns k / 2 ^ (ln ns k - n) = x) := Iff.rfl
          have HMk : Hid (MN ns x n k ↔ ln ns k = n ∧ cdOf ns k = x) := Iff.rfl
          generalize ln ns k = m at *
          generalize hX : cdOf ns k = X at *
          by_cases hmn : m < n
          · have hmi : (m : Int) < (n : Int) := by omega
            have HR : Hid (bb = true ↔ ∃ s, s < k + 1 ∧ BN ns x n s) := by
              unfold Hid; rw [HBB.out]
              constructor
              · rintro ⟨s, h1, h2⟩; exact ⟨s, by omega, h2⟩
              · rintro ⟨s, h1, h2⟩
                refine ⟨s, ?_, h2⟩
                by_cases e : s = k
                · subst e; have := (HBk.out.1 h2).1; omega
                · omega
            have HM : Hid (∀ s, s < k + 1 → ¬ MN ns x n s) := fun s hs hm => by
              by_cases e : s = k
              · subst e; have := (HMk.out.1 hm).1; omega
              · exact HNM.out s (by omega) hm
            clear hsh
            go_wp2
            go_round
            case rel => exact ⟨k + 1, bb, by omega, by go_num, rfl, HR.out, HM.out⟩
            case measure => simp [intOf]; omega
          · have hmi : ¬ (m : Int) < (n : Int) := by omega
            by_cases hM : m = n ∧ X = x
            · have hMk := HMk.out.2 hM
              obtain ⟨rfl, rfl⟩ := hM
              have e1 : m = j + 1 := by
                by_cases hle : m ≤ j
                · exact absurd hMk ((HA.out hle).1 k hlt)
                · omega
              obtain ⟨rfl, rfl⟩ := (HZ.out e1).1 k hlt hMk
              clear hMk hsh
              subst e1
              go_wp2
              go_ret3
              exact ⟨by go_num, rfl⟩
            · have hsub : ((m : Int) - (n : Int)).toNat = m - n := by omega
              have hsub0 : (0 : Int) ≤ (m : Int) - (n : Int) := by omega
              have HM : Hid (∀ s, s < k + 1 → ¬ MN ns x n s) := fun s hs hm => by
                by_cases e : s = k
                · subst e; exact hM (HMk.out.1 hm)
                · exact HNM.out s (by omega) hm
              have HR : Hid (∀ c : Bool, (c = true ↔ X / 2 ^ (m - n) = x) → ((bb || c) = true ↔ ∃ s, s < k + 1 ∧ BN ns x n s)) := fun c hc => by
                rw [Bool.or_eq_true, HBB.out, hc]
                constructor
                · rintro (⟨s, h1, h2⟩ | h)
                  · exact ⟨s, by omega, h2⟩
                  · exact ⟨k, by omega, HBk.out.2 ⟨by omega, h⟩⟩
                · rintro ⟨s, h1, h2⟩
                  by_cases e : s = k
                  · subst e; exact .inr (HBk.out.1 h2).2
                  · exact .inl ⟨s, by omega, h2⟩
              generalize X / 2 ^ (m - n) = Z at *
              have HR2 : Hid ((bb || decide (Z = x)) = true ↔ ∃ s, s < k + 1 ∧ BN ns x n s) := HR.out _ (by simp)
              have HM2 : Hid (m = n → ¬ X = x) := fun h1 h2 => hM ⟨h1, h2⟩
              clear HR HBk HMk hM HBB HNM HA HZ
              have hcase : (((m : Int) == (n : Int)) = true ∧ ((X : Int) == (x : Int)) = false) ∨ ((m : Int) == (n : Int)) = false := by
                by_cases e : m = n
                · refine .inl ⟨by simp; omega, ?_⟩
                  have := HM2.out e
                  simp; omega
                · exact .inr (by simp; omega)
              rcases hcase with ⟨b1, b2⟩ | b1
              all_goals
                cases bb
                · by_cases hZ : Z = x
                  · have HR3 : Hid (true = true ↔ ∃ s, s < k + 1 ∧ BN ns x n s) := by have := HR2.out; rw [decide_eq_true hZ] at this; exact this
                    have b3 : ((Z : Int) == (x : Int)) = true := by simp; omega
                    clear HR2 hZ
                    go_wp2
                    go_round
                    case rel => exact ⟨k + 1, true, by omega, by go_num, rfl, HR3.out, HM.out⟩
                    case measure => simp [intOf]; omega
                  · have HR3 : Hid (false = true ↔ ∃ s, s < k + 1 ∧ BN ns x n s) := by have := HR2.out; rw [decide_eq_false hZ] at this; exact this
                    have b3 : ((Z : Int) == (x : Int)) = false := by simp; omega
                    clear HR2 hZ
                    go_wp2
                    go_round
                    case rel => exact ⟨k + 1, false, by omega, by go_num, rfl, HR3.out, HM.out⟩
                    case measure => simp [intOf]; omega
                · have HR3 : Hid (true = true ↔ ∃ s, s < k + 1 ∧ BN ns x n s) := by have := HR2.out; rw [Bool.true_or] at this; exact this
                  clear HR2
                  go_wp2
                  go_round
                  case rel => exact ⟨k + 1, true, by omega, by go_num, rfl, HR3.out, HM.out⟩
                  case measure => simp [intOf]; omega
        · obtain rfl : k = K := by omega
          by_cases hle : n ≤ j
          · have hbt : bb = true := HBB.out.2 (HA.out hle).2
            subst hbt
            go_wp2
            go_round
            case rel => exact ⟨n + 1, by omega, by omega, by go_num⟩
            case measure => simp [intOf]; omega
          · have e1 : n = j + 1 := by omega
            obtain ⟨h1, rfl, rfl⟩ := (HZ.out e1).2 HNM.out
            have hbf : bb = false := by
              cases bb
              · rfl
              · exact absurd (HBB.out.1 rfl) h1
            subst hbf
            subst e1
            clear h1
            go_wp2
            go_ret3
            exact ⟨by go_num, rfl⟩
end Go.Proofs.Ytbkaeibjhnndfab
