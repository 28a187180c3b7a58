/-
  SizeOk and Silent of the model: contracts. No statement is proved here.
-/
import Derived.Test.YtfdfjmibjnmhpaaTallyViews
set_option linter.unusedVariables false
set_option maxRecDepth 100000
namespace Go.Proofs.Ytfdfjmibjnmhpaa.V
open Go.RowKit Go.Proofs.Ytfdfjmibjnmhpaa.B

def sizeB (n : Int) : Bool := decide (n = 4) || decide (n = 7)
theorem specSize_any (n : Int) (w : World) : Calls Try.prog 70 #[.int .i64 n] w fun e w' => e = .returned (.bool (sizeB n)) ∧ w' = w := by
  unfold sizeB
  by_cases h1 : n = 4
  · subst h1
    go_enter Try.func70, Try.ntmps70
    go_wp2
    go_ret
    exact ⟨rfl, rfl⟩
  · have hf : (n == 4) = false := by simpa using h1
    by_cases h2 : n = 7
    · subst h2
      go_enter Try.func70, Try.ntmps70
      go_wp2
      go_ret
      exact ⟨rfl, rfl⟩
    · have hf2 : (n == 7) = false := by simpa using h2
      go_enter Try.func70, Try.ntmps70
      go_wp2
      go_ret
      exact ⟨ret_boolB (by simp [h1, h2]), rfl⟩
theorem specSize_is (n : Int) (q : Bool) (h : sizeB n = q) (w : World) : Calls Try.prog 70 #[.int .i64 n] w fun e w' => e = .returned (.bool q) ∧ w' = w := by
  rw [← h]; exact specSize_any n w

def silentK (vs : List B3) (view : Int) (k : Nat) : List Int := ((List.range k).filter (fun (i : Nat) => !(foundQ vs view (i : Int)))).map (fun (i : Nat) => (i : Int))
theorem silentK_step (vs : List B3) (view : Int) (k : Nat) : silentK vs view (k + 1) = silentK vs view k ++ (if foundQ vs view (k : Int) then [] else [(k : Int)]) := by
  unfold silentK
  rw [List.range_succ, List.filter_append, List.map_append]
  congr 1
  rcases h1 : foundQ vs view (k : Int) with _ | _ <;> simp [List.filter, h1]
theorem silentK_le (vs : List B3) (view : Int) (k : Nat) : (silentK vs view k).length ≤ k := by
  simp only [silentK, List.length_map]
  exact Nat.le_trans (List.length_filter_le _ _) (by simp)

def silentR (n : Int) (vs : List B3) (view : Int) : List Int := if sizeB n && tallyOkB vs then silentK vs view n.toNat else []
theorem silentR_le (n : Int) (vs : List B3) (view : Int) : (silentR n vs view).length ≤ 7 := by
  unfold silentR
  split
  · rename_i h
    simp only [sizeB, Bool.and_eq_true, Bool.or_eq_true, decide_eq_true_eq] at h
    exact Nat.le_trans (silentK_le _ _ _) (by omega)
  · simp
end Go.Proofs.Ytfdfjmibjnmhpaa.V
