/- Disks of one file, step by step (pure). -/
import Derived.Test.YtmjfcneofpddiaaDoorQDskM
namespace Go.Proofs.YtmjfcneofpddiaaDoor
set_option linter.unusedVariables false
set_option linter.unusedSimpArgs false

theorem dieS_live {S : DS} (h : S.left < 0) : dieS S = S := by unfold dieS; rw [if_neg (by omega), if_neg (by omega)]
/-- A disk with the one file x in block g. -/
def one (room : Int) (x : List UInt8) (g : Nat) (f : List UInt8 × Nat) (left : Int) (dead : Bool) (sure : Fo) (steps : List Stp) : DS := ⟨room, [(x, g)], sure, steps, left, dead, updF (fun _ => ([], 0)) g f⟩
theorem lk_one (x : List UInt8) (g : Nat) : lk [(x, g)] x = some g := by rw [lk_cons, if_pos rfl]
theorem usd_one (fl : Nat → List UInt8 × Nat) (x : List UInt8) (g : Nat) : usd fl [(x, g)] = (fl g).1.length := by simp [usd]
theorem ap_first {room : Int} {x data : List UInt8} (g : Nat) (left : Int) (hl : left < 0) (hx : nameD x = true) (hr : (data.length : Int) ≤ room) :
    apE ⟨room, [], [], [], left, false, fun _ => ([], 0)⟩ x data = 0 ∧ apS ⟨room, [], [], [], left, false, fun _ => ([], 0)⟩ x data g = one room x g (data, 0) left false [] [⟨0, g, x, []⟩] := by
  have hd : dieS ⟨room, [], [], [], left, false, fun _ => ([], 0)⟩ = ⟨room, [], [], [], left, false, fun _ => ([], 0)⟩ := dieS_live hl
  have e : apE ⟨room, [], [], [], left, false, fun _ => ([], 0)⟩ x data = 0 := by
    unfold apE; rw [hd]; simp [hx, usd]; omega
  refine ⟨e, ?_⟩
  unfold apS; rw [if_pos e, hd]
  simp [lk_nil, takeS, one, doF, pt, dl]
theorem ap_more {room : Int} {x data : List UInt8} {g : Nat} (g' : Nat) {f : List UInt8 × Nat} {left : Int} {sure : Fo} {steps : List Stp} (hl : left < 0) (hx : nameD x = true) (hr : (f.1.length : Int) + (data.length : Int) ≤ room) :
    apE (one room x g f left false sure steps) x data = 0 ∧ apS (one room x g f left false sure steps) x data g' = one room x g (f.1 ++ data, f.2) left false sure steps := by
  have hd : dieS (one room x g f left false sure steps) = one room x g f left false sure steps := dieS_live hl
  have e : apE (one room x g f left false sure steps) x data = 0 := by
    unfold apE; rw [hd]; simp [hx, one, usd_one, updF_same]; omega
  refine ⟨e, ?_⟩
  unfold apS; rw [if_pos e, hd]
  have : lk (one room x g f left false sure steps).now x = some g := lk_one x g
  rw [this]
  simp only [one, updF_same, DS.mk.injEq, true_and]
  funext k; unfold updF; split <;> rfl
theorem ap_full {room : Int} {x data : List UInt8} {g : Nat} (g' : Nat) {f : List UInt8 × Nat} {left : Int} {sure : Fo} {steps : List Stp} (hl : left < 0) (hx : nameD x = true) (hr : room < (f.1.length : Int) + (data.length : Int)) :
    apE (one room x g f left false sure steps) x data = 9 ∧ apS (one room x g f left false sure steps) x data g' = one room x g f left false sure steps := by
  have hd : dieS (one room x g f left false sure steps) = one room x g f left false sure steps := dieS_live hl
  have e : apE (one room x g f left false sure steps) x data = 9 := by
    unfold apE; rw [hd]; simp [hx, one, usd_one, updF_same]; omega
  refine ⟨e, ?_⟩
  unfold apS; rw [if_neg (by rw [e]; decide), hd]
theorem sy_one {room : Int} {x : List UInt8} {g : Nat} {f : List UInt8 × Nat} {left : Int} {sure : Fo} {steps : List Stp} (hl : left < 0) :
    syE (one room x g f left false sure steps) x = 0 ∧ syS (one room x g f left false sure steps) x = one room x g (f.1, f.1.length) left false sure steps := by
  have hd : dieS (one room x g f left false sure steps) = one room x g f left false sure steps := dieS_live hl
  have hk : lk (one room x g f left false sure steps).now x = some g := lk_one x g
  have hn : ¬ (one room x g f left false sure steps).dead = true := by simp [one]
  unfold syE syS
  rw [hd, if_neg hn, if_neg hn, hk]
  refine ⟨by simp, ?_⟩
  simp only [one, updF_same, DS.mk.injEq, true_and]
  funext k; unfold updF; split <;> rfl
theorem se_one {room : Int} {x : List UInt8} {g : Nat} {f : List UInt8 × Nat} {left : Int} {sure : Fo} {steps : List Stp} (hl : left < 0) :
    seE (one room x g f left false sure steps) = 0 ∧ seS (one room x g f left false sure steps) = one room x g f left false [(x, g)] [] := by
  have hd : dieS (one room x g f left false sure steps) = one room x g f left false sure steps := dieS_live hl
  unfold seE seS
  rw [hd]
  exact ⟨rfl, rfl⟩
theorem cr_one {room : Int} {x : List UInt8} {g : Nat} {f : List UInt8 × Nat} {left : Int} {dead : Bool} (ks : List Int) :
    crS (one room x g f left dead [(x, g)] []) ks = one room x g (cutF f (kpN ks 0)) (-1) false [(x, g)] [] := by
  unfold crS
  have hF : crF ks 0 (one room x g f left dead [(x, g)] []).steps (one room x g f left dead [(x, g)] []).sure = [(x, g)] := rfl
  have hN : nms [(x, g)] = [x] := by simp [nms]
  simp only [hF, hN]
  simp only [one, crC, lk_one, updF_same, List.length_nil, DS.mk.injEq, true_and]
  funext k; unfold updF; split <;> rfl
theorem rd_one {room : Int} {x : List UInt8} {g : Nat} {f : List UInt8 × Nat} {left : Int} {sure : Fo} {steps : List Stp} :
    rdE (one room x g f left false sure steps) x = 0 ∧ rdV (one room x g f left false sure steps) x = f.1 := by
  have hk : lk (one room x g f left false sure steps).now x = some g := lk_one x g
  have hn : ¬ (one room x g f left false sure steps).dead = true := by simp [one]
  unfold rdE rdV
  rw [if_neg hn, if_neg hn, hk]
  exact ⟨by simp, by simp [one, updF_same]⟩
theorem newS_eq (room : Int) : newS room = ⟨room, [], [], [], -1, false, fun _ => ([], 0)⟩ := rfl
end Go.Proofs.YtmjfcneofpddiaaDoor
