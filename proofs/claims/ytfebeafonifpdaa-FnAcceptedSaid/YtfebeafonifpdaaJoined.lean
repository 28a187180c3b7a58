/-
  Joined of the model: its contract. No statement is proved here.
-/
import Derived.Test.YtfebeafonifpdaaTallyAdd3
set_option linter.unusedVariables false
set_option maxRecDepth 100000
namespace Go.Proofs.Ytfebeafonifpdaa.V
open Go.RowKit Go.Proofs.Ytfebeafonifpdaa.B

/-- A ballot added to a tally, if it is not there already. -/
def addT (vs : List B3) (u : B3) : List B3 := if hasB vs u (place vs u) then vs else insT vs (place vs u) u
def joinK (vs us : List B3) (i : Nat) : List B3 := (us.take i).foldl addT vs
theorem addT_len (vs : List B3) (u : B3) : (addT vs u).length ≤ vs.length + 1 := by
  unfold addT
  split
  · omega
  · have := (place_pl vs u).1
    rw [insT_len _ _ _ this]; omega
theorem joinK_step (vs us : List B3) (i : Nat) (h : i < us.length) : joinK vs us (i + 1) = addT (joinK vs us i) (us.getD i z3) := by
  unfold joinK
  rw [take_get us z3 i h, List.foldl_append]; rfl
theorem joinK_len (vs us : List B3) : ∀ i, i ≤ us.length → (joinK vs us i).length ≤ vs.length + i
  | 0, _ => by simp [joinK]
  | i + 1, h => by
    rw [joinK_step vs us i (by omega)]
    have h1 := addT_len (joinK vs us i) (us.getD i z3)
    have h2 := joinK_len vs us i (by omega)
    omega
theorem joinK_all (vs us : List B3) : joinK vs us us.length = us.foldl addT vs := by simp [joinK]
def joinQ (vs us : List B3) : Bool := tallyOkB vs && tallyOkB us
def joinU (vs us : List B3) : List B3 := if joinQ vs us then us.foldl addT vs else []
theorem joinU_small (vs us : List B3) : (joinU vs us).length ≤ 140 := by
  unfold joinU joinQ
  rcases h1 : tallyOkB vs with _ | _
  · simp
  · rcases h2 : tallyOkB us with _ | _
    · simp
    · have e1 := tally_len h1
      have e2 := tally_len h2
      have e3 := joinK_len vs us us.length (Nat.le_refl _)
      rw [joinK_all] at e3
      simp only [Bool.and_self, if_true]
      omega

end Go.Proofs.Ytfebeafonifpdaa.V
