/- What makes a tree's nodes one, in plain numbers and texts. -/
import Derived.Test.YtkgjepgaekbniaaDoorQNodV
import Derived.Test.YtkgjepgaekbniaaDoorQPthM
namespace Go.Proofs.YtkgjepgaekbniaaDoor
set_option linter.unusedVariables false

def datedN (m t : Int) : Bool := decide (0 ≤ m) && decide (m ≤ 511) && decide (0 ≤ t) && decide (t ≤ 253402300799)
def filledN (s : Int) (c : List (List UInt8)) : Bool :=
  decide (0 ≤ s) && decide (s ≤ 32768) && decide ((c.length : Int) ≤ s) && decide (c.length = 0 ↔ s = 0) && c.all fun x => decide (x.length = 32)
def targN (g : List UInt8) : Bool := decide (g ≠ []) && decide (g.length ≤ 200) && decide ((0 : UInt8) ∉ g)
def formN : Nd → Bool
  | .fol _ m t => datedN m t
  | .pla _ m t s c => datedN m t && filledN s c
  | .sym _ m t g => datedN m t && targN g
  | .ptr .. => false
  | .non => false
/-- The error of a node by itself. -/
def unfitN (n : Nd) : Int := if kindN n = 0 then 12 else if isL (atN n) = false then 11 else if formN n = false then 4 else 0
/-- The error of nodes, behind a path, where these folders stand. -/
def chkN : List UInt8 → List (List UInt8) → List Nd → Int
  | _, _, [] => 0
  | a, fs, n :: r =>
    if unfitN n ≠ 0 then unfitN n
    else if 0 ≤ pcm a (atN n) then 4
    else if parL (atN n) ∉ fs then 7
    else chkN (atN n) (if kindN n = 1 then atN n :: fs else fs) r
def checkN (l : List Nd) : Int := if 200 < l.length then 2 else chkN [] [[]] l
end Go.Proofs.YtkgjepgaekbniaaDoor
