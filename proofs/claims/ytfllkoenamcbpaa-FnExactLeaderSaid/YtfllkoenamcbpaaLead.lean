/-
  Leader of model and program: contracts. No statement is proved here.
-/
import Derived.Test.YtfllkoenamcbpaaRows
import Derived.Test.YtfllkoenamcbpaaBase
set_option linter.unusedVariables false
set_option maxRecDepth 100000
namespace Go.Proofs.Ytfllkoenamcbpaa.V
open Go.RowKit Go.Proofs.Ytfllkoenamcbpaa.B

def ldS (n : Int) : Bool := decide (n = 4) || decide (n = 7)
def ldV (v : Int) : Bool := decide (0 ≤ v) && decide (v ≤ 9)
def leadR (n v : Int) : Int := if ldS n && ldV v then v.tmod n else -1
theorem ldB {a b : Bool} (h : a = b) : Ending.returned (.bool a) = .returned (.bool b) := by rw [h]
theorem ldI {a b : Int} (h : a = b) : Ending.returned (.int .i64 a) = .returned (.int .i64 b) := by rw [h]
theorem ldTwo {n : Int} (h : ldS n = true) : n = 4 ∨ n = 7 := by simpa [ldS] using h
theorem ldTen {v : Int} (h : ldV v = true) : v = 0 ∨ v = 1 ∨ v = 2 ∨ v = 3 ∨ v = 4 ∨ v = 5 ∨ v = 6 ∨ v = 7 ∨ v = 8 ∨ v = 9 := by
  simp only [ldV, Bool.and_eq_true, decide_eq_true_eq] at h
  omega
theorem ldSS_any (n : Int) (w : World) : Calls Try.prog 6 #[.int .i64 n] w fun e w' => e = .returned (.bool (ldS n)) ∧ w' = w := by
  unfold ldS
  by_cases h1 : n = 4
  · subst h1
    go_enter Try.func6, Try.ntmps6
    go_wp2
    go_ret
    exact ⟨rfl, rfl⟩
  · have hf : (n == 4) = false := by simpa using h1
    by_cases h2 : n = 7
    · subst h2
      go_enter Try.func6, Try.ntmps6
      go_wp2
      go_ret
      exact ⟨rfl, rfl⟩
    · have hf2 : (n == 7) = false := by simpa using h2
      go_enter Try.func6, Try.ntmps6
      go_wp2
      go_ret
      exact ⟨ldB (by simp [h1, h2]), rfl⟩
theorem ldSS_is (n : Int) (q : Bool) (h : ldS n = q) (w : World) : Calls Try.prog 6 #[.int .i64 n] w fun e w' => e = .returned (.bool q) ∧ w' = w := by
  rw [← h]; exact ldSS_any n w
theorem ldPS_any (n : Int) (w : World) : Calls Try.prog 8 #[.int .i64 n] w fun e w' => e = .returned (.bool (ldS n)) ∧ w' = w := by
  unfold ldS
  by_cases h1 : n = 4
  · subst h1
    go_enter Try.func8, Try.ntmps8
    go_wp2
    go_ret
    exact ⟨rfl, rfl⟩
  · have hf : (n == 4) = false := by simpa using h1
    by_cases h2 : n = 7
    · subst h2
      go_enter Try.func8, Try.ntmps8
      go_wp2
      go_ret
      exact ⟨rfl, rfl⟩
    · have hf2 : (n == 7) = false := by simpa using h2
      go_enter Try.func8, Try.ntmps8
      go_wp2
      go_ret
      exact ⟨ldB (by simp [h1, h2]), rfl⟩
theorem ldPS_is (n : Int) (q : Bool) (h : ldS n = q) (w : World) : Calls Try.prog 8 #[.int .i64 n] w fun e w' => e = .returned (.bool q) ∧ w' = w := by
  rw [← h]; exact ldPS_any n w
theorem ldSV_is (n : Int) (q : Bool) (h : ldV n = q) (w : World) : Calls Try.prog 7 #[.int .i64 n] w fun e w' => e = .returned (.bool q) ∧ w' = w := by
  rw [← h]
  unfold ldV
  by_cases h1 : 0 ≤ n
  · by_cases h2 : n ≤ 9
    · go_enter Try.func7, Try.ntmps7
      go_wp2
      go_ret
      exact ⟨ldB (by simp [h1, h2]), rfl⟩
    · have h3 : 9 < n := by omega
      go_enter Try.func7, Try.ntmps7
      go_wp2
      go_ret
      exact ⟨ldB (by simp [h2]), rfl⟩
  · have h3 : n < 0 := by omega
    go_enter Try.func7, Try.ntmps7
    go_wp2
    go_ret
    exact ⟨ldB (by simp; omega), rfl⟩
theorem ldPV_is (n : Int) (q : Bool) (h : ldV n = q) (w : World) : Calls Try.prog 9 #[.int .i64 n] w fun e w' => e = .returned (.bool q) ∧ w' = w := by
  rw [← h]
  unfold ldV
  by_cases h1 : 0 ≤ n
  · by_cases h2 : n ≤ 9
    · go_enter Try.func9, Try.ntmps9
      go_wp2
      go_ret
      exact ⟨ldB (by simp [h1, h2]), rfl⟩
    · have h3 : 9 < n := by omega
      go_enter Try.func9, Try.ntmps9
      go_wp2
      go_ret
      exact ⟨ldB (by simp [h2]), rfl⟩
  · have h3 : n < 0 := by omega
    go_enter Try.func9, Try.ntmps9
    go_wp2
    go_ret
    exact ⟨ldB (by simp; omega), rfl⟩
theorem specLeader_any (n v : Int) (w : World) : Calls Try.prog 4 #[.int .i64 n, .int .i64 v] w fun e w' => e = .returned (.int .i64 (leadR n v)) ∧ w' = w := by
  rcases hs : ldS n with _ | _
  · go_enter Try.func4, Try.ntmps4
    go_wp2_with (first | (go_at_call 6; refine (ldSS_is _ false hs _).mono ?_; rintro e w0 ⟨rfl, rfl⟩) | fail)
    go_ret
    exact ⟨ldI (by simp [leadR, hs]), rfl⟩
  · rcases hv : ldV v with _ | _
    · go_enter Try.func4, Try.ntmps4
      go_wp2_with (first | (go_at_call 6; refine (ldSS_is _ true hs _).mono ?_; rintro e w0 ⟨rfl, rfl⟩) | (go_at_call 7; refine (ldSV_is _ false hv _).mono ?_; rintro e w0 ⟨rfl, rfl⟩))
      go_ret
      exact ⟨ldI (by simp [leadR, hs, hv]), rfl⟩
    · rcases ldTwo hs with rfl | rfl
      all_goals
        rcases ldTen hv with rfl | rfl | rfl | rfl | rfl | rfl | rfl | rfl | rfl | rfl
        all_goals
          go_enter Try.func4, Try.ntmps4
          go_wp2_with (first | (go_at_call 6; refine (ldSS_is _ true rfl _).mono ?_; rintro e w0 ⟨rfl, rfl⟩) | (go_at_call 7; refine (ldSV_is _ true rfl _).mono ?_; rintro e w0 ⟨rfl, rfl⟩))
          go_ret
          exact ⟨rfl, rfl⟩
theorem implLeader_any (n v : Int) (w : World) : Calls Try.prog 5 #[.int .i64 n, .int .i64 v] w fun e w' => e = .returned (.int .i64 (leadR n v)) ∧ w' = w := by
  rcases hs : ldS n with _ | _
  · go_enter Try.func5, Try.ntmps5
    go_wp2_with (first | (go_at_call 8; refine (ldPS_is _ false hs _).mono ?_; rintro e w0 ⟨rfl, rfl⟩) | fail)
    go_ret
    exact ⟨ldI (by simp [leadR, hs]), rfl⟩
  · rcases hv : ldV v with _ | _
    · go_enter Try.func5, Try.ntmps5
      go_wp2_with (first | (go_at_call 8; refine (ldPS_is _ true hs _).mono ?_; rintro e w0 ⟨rfl, rfl⟩) | (go_at_call 9; refine (ldPV_is _ false hv _).mono ?_; rintro e w0 ⟨rfl, rfl⟩))
      go_ret
      exact ⟨ldI (by simp [leadR, hs, hv]), rfl⟩
    · rcases ldTwo hs with rfl | rfl
      all_goals
        rcases ldTen hv with rfl | rfl | rfl | rfl | rfl | rfl | rfl | rfl | rfl | rfl
        all_goals
          go_enter Try.func5, Try.ntmps5
          go_wp2_with (first | (go_at_call 8; refine (ldPS_is _ true rfl _).mono ?_; rintro e w0 ⟨rfl, rfl⟩) | (go_at_call 9; refine (ldPV_is _ true rfl _).mono ?_; rintro e w0 ⟨rfl, rfl⟩))
          go_ret
          exact ⟨rfl, rfl⟩
end Go.Proofs.Ytfllkoenamcbpaa.V
