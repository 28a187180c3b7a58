/-
  What the laws on fixed reports turn on: answers found by reckoning. No statement is proved here.
-/
import Derived.Test.YtcfjmhebhhekbaaRepCh
set_option linter.unusedVariables false
set_option maxRecDepth 100000
namespace Go.Proofs.Ytcfjmhebhhekbaa.V
open Go.RowKit Go.Proofs.Ytcfjmhebhhekbaa.B

/-- Three of four that voted for 3 in the view u and are locked on it, and the fourth at o. -/
def bR (view u o : Int) (i : Nat) : Rp := if (i : Int) = o then ⟨i, view - 1, 2, [(view - 1, 2)]⟩ else ⟨i, u, 3, [(u, 3)]⟩
def bRs (view u o : Int) : List Rp := (List.range 4).map (bR view u o)
theorem bounds_all : ((List.range 4).all fun a => (List.range 6).all fun u => (List.range 4).all fun o => !decide (u < a + 2) ||
    (((List.range 5).all fun v => decide (v = 0) || (safeT 4 ((a + 2 : Nat) : Int) (bRs ((a + 2 : Nat) : Int) (u : Int) (o : Int)) (v : Int) == decide (v = 3))) &&
      decide (chooseT 4 ((a + 2 : Nat) : Int) (bRs ((a + 2 : Nat) : Int) (u : Int) (o : Int)) 1 = (3, true)))) = true := by decide +kernel
def threeR : List Rp := [⟨0, 0, 0, []⟩, ⟨1, 0, 0, []⟩, ⟨3, 0, 0, []⟩]
theorem three_free : freeT 4 1 threeR = true := by decide +kernel
theorem three_safe : safeT 4 1 threeR 7 = true := by decide +kernel
theorem two_free : freeT 4 1 [⟨0, 0, 0, []⟩, ⟨1, 0, 0, []⟩] = false := by decide +kernel
end Go.Proofs.Ytcfjmhebhhekbaa.V
