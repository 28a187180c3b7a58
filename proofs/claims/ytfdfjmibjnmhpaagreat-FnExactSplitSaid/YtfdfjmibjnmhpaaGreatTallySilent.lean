/-
  SizeOk and Silent of the model: contracts. No statement is proved here.
-/
import Derived.Test.YtfdfjmibjnmhpaaGreatSizes
import Derived.Test.YtfdfjmibjnmhpaaGreatTallyViews
set_option linter.unusedVariables false
set_option maxRecDepth 100000
namespace Go.Proofs.YtfdfjmibjnmhpaaGreat.V
open Go.RowKit Go.Proofs.YtfdfjmibjnmhpaaGreat.B

def silentK (vs : List B3) (view : Int) (k : Nat) : List Int := ((List.range k).filter (fun (i : Nat) => !(foundQ vs view (i : Int)))).map (fun (i : Nat) => (i : Int))
theorem silentK_step (vs : List B3) (view : Int) (k : Nat) : silentK vs view (k + 1) = silentK vs view k ++ (if foundQ vs view (k : Int) then [] else [(k : Int)]) := by
  unfold silentK
  rw [List.range_succ, List.filter_append, List.map_append]
  congr 1
  rcases h1 : foundQ vs view (k : Int) with _ | _ <;> simp [List.filter, h1]
theorem silentK_le (vs : List B3) (view : Int) (k : Nat) : (silentK vs view k).length ≤ k := by
  simp only [silentK, List.length_map]
  exact Nat.le_trans (List.length_filter_le _ _) (by simp)

def silentR (n : Int) (vs : List B3) (view : Int) : List Int := if sizeB n && tallyOkB vs then silentK vs view n.toNat else []
theorem silentR_le (n : Int) (vs : List B3) (view : Int) : (silentR n vs view).length ≤ 7 := by
  unfold silentR
  split
  · rename_i h
    simp only [sizeB, Bool.and_eq_true, Bool.or_eq_true, decide_eq_true_eq] at h
    exact Nat.le_trans (silentK_le _ _ _) (by omega)
  · simp
end Go.Proofs.YtfdfjmibjnmhpaaGreat.V
