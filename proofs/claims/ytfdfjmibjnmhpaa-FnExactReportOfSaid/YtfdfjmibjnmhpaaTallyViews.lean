/-
  ViewsIn of the model: its contract. No statement is proved here.
-/
import Derived.Test.YtfdfjmibjnmhpaaTallyVoters
set_option linter.unusedVariables false
set_option maxRecDepth 100000
namespace Go.Proofs.Ytfdfjmibjnmhpaa.V
open Go.RowKit Go.Proofs.Ytfdfjmibjnmhpaa.B

def newAt (vs : List B3) (i : Nat) : Bool := decide (i = 0) || decide ((vs.getD (i - 1) z3).2.1 ≠ (vs.getD i z3).2.1)
def viewsK (vs : List B3) (k : Nat) : List Int := ((List.range k).filter (newAt vs)).map fun i => (vs.getD i z3).2.1
theorem viewsK_step (vs : List B3) (k : Nat) : viewsK vs (k + 1) = viewsK vs k ++ (if newAt vs k then [(vs.getD k z3).2.1] else []) := by
  unfold viewsK
  rw [List.range_succ, List.filter_append, List.map_append]
  congr 1
  rcases h1 : newAt vs k with _ | _ <;> simp [List.filter, h1]
theorem viewsK_le (vs : List B3) (k : Nat) : (viewsK vs k).length ≤ k := by
  simp only [viewsK, List.length_map]
  exact Nat.le_trans (List.length_filter_le _ _) (by simp)

theorem own_onB {w w' : World} {b e size n : Nat} {v : Value} {xs : List Value} (h : w.ownsRow b e size v n xs) (hb : Below w.heap.size w w') : w'.ownsRow b e size v n xs := by
  obtain ⟨hl, h⟩ := h
  refine ⟨hl, ?_⟩
  rcases h with h1 | ⟨g, cap, cur, h1, h2, h3, h4⟩
  · exact .inl h1
  · exact .inr ⟨g, cap, cur, h1, h2, (hb.block g (Array.getElem?_eq_some_iff.1 h3).1).trans h3, h4⟩
def viewsR (vs : List B3) : List Int := if tallyOkB vs then viewsK vs vs.length else []
end Go.Proofs.Ytfdfjmibjnmhpaa.V
