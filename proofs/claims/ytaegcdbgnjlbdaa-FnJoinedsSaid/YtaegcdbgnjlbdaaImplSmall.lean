/-
  SizeOk, Faults, Strong and Weak of the program: contracts. No statement is proved here.
-/
import Derived.Test.YtaegcdbgnjlbdaaTallyOpen
set_option linter.unusedVariables false
set_option maxRecDepth 100000
namespace Go.Proofs.Ytaegcdbgnjlbdaa.V
open Go.RowKit Go.Proofs.Ytaegcdbgnjlbdaa.B

theorem implSize_any (n : Int) (w : World) : Calls Try.prog 47 #[.int .i64 n] w fun e w' => e = .returned (.bool (sizeB n)) ∧ w' = w := by
  unfold sizeB
  by_cases h1 : n = 4
  · subst h1
    go_enter Try.func47, Try.ntmps47
    go_wp2
    go_ret
    exact ⟨rfl, rfl⟩
  · have hf : (n == 4) = false := by simpa using h1
    by_cases h2 : n = 7
    · subst h2
      go_enter Try.func47, Try.ntmps47
      go_wp2
      go_ret
      exact ⟨rfl, rfl⟩
    · have hf2 : (n == 7) = false := by simpa using h2
      go_enter Try.func47, Try.ntmps47
      go_wp2
      go_ret
      exact ⟨ret_boolB (by simp [h1, h2]), rfl⟩
theorem implSize_is (n : Int) (q : Bool) (h : sizeB n = q) (w : World) : Calls Try.prog 47 #[.int .i64 n] w fun e w' => e = .returned (.bool q) ∧ w' = w := by
  rw [← h]; exact implSize_any n w
theorem implFaults_any (n : Int) (w : World) : Calls Try.prog 67 #[.int .i64 n] w fun e w' => e = .returned (.int .i64 (faultsR n)) ∧ w' = w := by
  rcases hs : sizeB n with _ | _
  · go_enter Try.func67, Try.ntmps67
    go_wp2_with (go_at_call 47; refine (implSize_is n false hs _).mono ?_; rintro e w0 ⟨rfl, rfl⟩)
    go_ret
    exact ⟨ret_int (by simp [faultsR, hs] <;> (unfold wrap64; omega)), rfl⟩
  · rcases size_two hs with rfl | rfl
    all_goals
      go_enter Try.func67, Try.ntmps67
      go_wp2_with (go_at_call 47; refine (implSize_is _ true hs _).mono ?_; rintro e w0 ⟨rfl, rfl⟩)
      go_ret
      exact ⟨ret_int (by simp [faultsR, hs] <;> (unfold wrap64; omega)), rfl⟩
theorem implStrong_any (n : Int) (w : World) : Calls Try.prog 57 #[.int .i64 n] w fun e w' => e = .returned (.int .i64 (strongR n)) ∧ w' = w := by
  rcases hs : sizeB n with _ | _
  · go_enter Try.func57, Try.ntmps57
    go_wp2_with (go_at_call 47; refine (implSize_is n false hs _).mono ?_; rintro e w0 ⟨rfl, rfl⟩)
    go_ret
    exact ⟨ret_int (by simp [strongR, hs]), rfl⟩
  · rcases size_two hs with rfl | rfl
    all_goals
      go_enter Try.func57, Try.ntmps57
      go_wp2_with (first | (go_at_call 47; refine (implSize_is _ true hs _).mono ?_; rintro e w0 ⟨rfl, rfl⟩) | (go_at_call 67; refine (implFaults_any _ _).mono ?_; rintro e w0 ⟨rfl, rfl⟩) | go_in)
      go_ret
      exact ⟨ret_int (by simp [strongR, faultsR, hs] <;> (unfold wrap64; omega)), rfl⟩
theorem implWeak_any (n : Int) (w : World) : Calls Try.prog 43 #[.int .i64 n] w fun e w' => e = .returned (.int .i64 (weakR n)) ∧ w' = w := by
  rcases hs : sizeB n with _ | _
  · go_enter Try.func43, Try.ntmps43
    go_wp2_with (go_at_call 47; refine (implSize_is n false hs _).mono ?_; rintro e w0 ⟨rfl, rfl⟩)
    go_ret
    exact ⟨ret_int (by simp [weakR, hs]), rfl⟩
  · rcases size_two hs with rfl | rfl
    all_goals
      go_enter Try.func43, Try.ntmps43
      go_wp2_with (first | (go_at_call 47; refine (implSize_is _ true hs _).mono ?_; rintro e w0 ⟨rfl, rfl⟩) | (go_at_call 67; refine (implFaults_any _ _).mono ?_; rintro e w0 ⟨rfl, rfl⟩) | go_in)
      go_ret
      exact ⟨ret_int (by simp [weakR, faultsR, hs] <;> (unfold wrap64; omega)), rfl⟩
end Go.Proofs.Ytaegcdbgnjlbdaa.V
