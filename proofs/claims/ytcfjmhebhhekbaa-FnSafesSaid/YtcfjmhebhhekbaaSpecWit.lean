/-
  Witnesses and grounds, of the model: contracts. No statement is proved here.
-/
import Derived.Test.YtcfjmhebhhekbaaRepOk
set_option linter.unusedVariables false
set_option maxRecDepth 100000
namespace Go.Proofs.Ytcfjmhebhhekbaa.V
open Go.RowKit Go.Proofs.Ytcfjmhebhhekbaa.B

theorem hasV_nil (f v x val from_ : Int) (vs : List (Int × Int)) : hasV val from_ ⟨f, v, x, vs⟩ = vs.any fun p => decide (p.2 = val) && decide (from_ ≤ p.1) := rfl

theorem wit_le (rs : List Rp) (val from_ : Int) : wit rs val from_ ≤ rs.length := List.countP_le_length
theorem weak_pos {n : Int} (h : sizeB n = true) : weakR n = 2 ∨ weakR n = 3 := by
  rcases size_two h with rfl | rfl
  · left; decide
  · right; decide
theorem last_no (ok : Int → Bool) : ∀ (j k : Nat), j ≤ k → (∀ i, j ≤ i → i < k → ok i = false) → last ok k = last ok j := by
  intro j k
  induction k with
  | zero => intro h _; obtain rfl : j = 0 := by omega
            rfl
  | succ k ih =>
    intro h hall
    by_cases e : j = k + 1
    · subst e; rfl
    · have h1 := hall k (by omega) (by omega)
      have h2 := ih (by omega) (fun i hi hik => hall i hi (by omega))
      rw [← h2]
      show (if ok k then (k : Int) else last ok k) = _
      rw [h1]; simp

end Go.Proofs.Ytcfjmhebhhekbaa.V
