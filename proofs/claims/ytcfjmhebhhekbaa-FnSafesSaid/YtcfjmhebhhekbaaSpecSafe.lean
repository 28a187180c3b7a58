/-
  What is free and what is safe, of the model: contracts. No statement is proved here.
-/
import Derived.Test.YtcfjmhebhhekbaaSpecWit
set_option linter.unusedVariables false
set_option maxRecDepth 100000
namespace Go.Proofs.Ytcfjmhebhhekbaa.V
open Go.RowKit Go.Proofs.Ytcfjmhebhhekbaa.B

theorem sup_dec (u val : Int) (r : Rp) : supL u val r = decide (r.x = 0 ∨ 0 ≤ u ∧ (r.v < u ∨ r.x = val)) := by
  unfold supL
  simp [Bool.decide_or, Bool.decide_and]
theorem strong_pos {n : Int} (h : sizeB n = true) : strongR n = 3 ∨ strongR n = 5 := by
  rcases size_two h with rfl | rfl
  · left; decide
  · right; decide

end Go.Proofs.Ytcfjmhebhhekbaa.V
