/-
  What TallyOk of the model answers: its contract. No statement is proved here.
-/
import Derived.Test.YtfebeafonifpdaaBal2
import Derived.IntWalk
set_option linter.unusedVariables false
set_option maxRecDepth 100000
namespace Go.Proofs.Ytfebeafonifpdaa.V
open Go.RowKit Go.Proofs.Ytfebeafonifpdaa.B

def viewB (n : Int) : Bool := decide (0 ≤ n ∧ n ≤ 9)
def valB (n : Int) : Bool := decide (1 ≤ n ∧ n ≤ 60)
def cmp3 (p u : B3) : Int := if p.2.1 ≠ u.2.1 then (if p.2.1 < u.2.1 then -1 else 1) else if p.1 < u.1 then -1 else if u.1 < p.1 then 1 else 0
def b3Ok (u : B3) : Bool := decide (0 ≤ u.1 ∧ u.1 < 7) && viewB u.2.1 && valB u.2.2
def goodB (vs : List B3) (i : Nat) : Bool := b3Ok (vs.getD i z3) && (decide (i = 0) || decide (cmp3 (vs.getD (i - 1) z3) (vs.getD i z3) < 0))
def tallyOkB (vs : List B3) : Bool := (List.range vs.length).all (goodB vs)
theorem tallyOk_yes {vs : List B3} (h : ∀ j, j < vs.length → goodB vs j = true) : tallyOkB vs = true := by
  unfold tallyOkB
  rw [List.all_eq_true]
  intro j hj
  exact h j (List.mem_range.1 hj)
theorem tallyOk_no {vs : List B3} {k : Nat} (hk : k < vs.length) (h : goodB vs k = false) : tallyOkB vs = false := by
  unfold tallyOkB
  rw [List.all_eq_false]
  exact ⟨k, List.mem_range.2 hk, by simp [h]⟩

theorem specView3_is (n : Int) (q : Bool) (h : viewB n = q) (w : World) : Calls Try.prog 87 #[.int .i64 n] w fun e w' => e = .returned (.bool q) ∧ w' = w := by
  subst h
  unfold viewB
  by_cases h1 : 0 ≤ n
  · by_cases h2 : n ≤ 9
    all_goals
      go_enter Try.func87, Try.ntmps87
      go_wp2
      go_ret
      exact ⟨ret_boolB (by simp; try omega), rfl⟩
  · go_enter Try.func87, Try.ntmps87
    go_wp2
    go_ret
    exact ⟨ret_boolB (by simp; try omega), rfl⟩
theorem specVal3_is (n : Int) (q : Bool) (h : valB n = q) (w : World) : Calls Try.prog 23 #[.int .i64 n] w fun e w' => e = .returned (.bool q) ∧ w' = w := by
  subst h
  unfold valB
  by_cases h1 : 1 ≤ n
  · by_cases h2 : n ≤ 60
    all_goals
      go_enter Try.func23, Try.ntmps23
      go_wp2
      go_ret
      exact ⟨ret_boolB (by simp; try omega), rfl⟩
  · go_enter Try.func23, Try.ntmps23
    go_wp2
    go_ret
    exact ⟨ret_boolB (by simp; try omega), rfl⟩

theorem ballot_any (a b c : Int) (w : World) : Calls Try.prog 88 #[.agg #[.int .i64 a, .int .i64 b, .int .i64 c]] w fun e w' => e = .returned (.bool (b3Ok (a, b, c))) ∧ Below w.heap.size w w' := by
  unfold b3Ok
  by_cases h1 : 0 ≤ a
  · by_cases h2 : a < 7
    · rcases h3 : viewB b with _ | _
      · go_enter Try.func88, Try.ntmps88
        go_wp2_with (go_at_call 87; refine (specView3_is b false h3 _).mono ?_; rintro e w1 ⟨rfl, rfl⟩)
        go_ret
        exact ⟨ret_boolB (by simp), (Below.refl _ _).alloc (Nat.le_refl _) _⟩
      · rcases h4 : valB c with _ | _
        all_goals
          go_enter Try.func88, Try.ntmps88
          go_wp2_with (first | (go_at_call 87; refine (specView3_is b true h3 _).mono ?_; rintro e w1 ⟨rfl, rfl⟩) | (go_at_call 23; refine (specVal3_is c _ h4 _).mono ?_; rintro e w1 ⟨rfl, rfl⟩))
          go_ret
          exact ⟨ret_boolB (by simp [h1, h2]), (Below.refl _ _).alloc (Nat.le_refl _) _⟩
    · go_enter Try.func88, Try.ntmps88
      go_wp2
      go_ret
      exact ⟨ret_boolB (by simp; intro h; omega), (Below.refl _ _).alloc (Nat.le_refl _) _⟩
  · go_enter Try.func88, Try.ntmps88
    go_wp2
    go_ret
    exact ⟨ret_boolB (by simp; intro h; omega), (Below.refl _ _).alloc (Nat.le_refl _) _⟩
theorem ballot_is (q : Bool) (a b c : Int) (hq : b3Ok (a, b, c) = q) (w : World) : Calls Try.prog 88 #[.agg #[.int .i64 a, .int .i64 b, .int .i64 c]] w fun e w' => e = .returned (.bool q) ∧ Below w.heap.size w w' := by
  rw [← hq]; exact ballot_any a b c w

theorem ret_int {a b : Int} (h : a = b) : Ending.returned (.int .i64 a) = .returned (.int .i64 b) := by rw [h]
theorem cmp_any (a b c d e f : Int) (w : World) : Calls Try.prog 103 #[.agg #[.int .i64 a, .int .i64 b, .int .i64 c], .agg #[.int .i64 d, .int .i64 e, .int .i64 f]] w fun x w' => x = .returned (.int .i64 (cmp3 (a, b, c) (d, e, f))) ∧ Below w.heap.size w w' := by
  unfold cmp3
  go_enter Try.func103, Try.ntmps103
  go_wp2
  all_goals go_ret
  all_goals refine ⟨ret_int ?_, by repeat (first | exact Below.refl _ _ | refine Below.alloc ?_ (by simp) _)⟩
  all_goals (simp_all; try omega)
theorem cmp_is (q : Int) (a b c d e f : Int) (hq : cmp3 (a, b, c) (d, e, f) = q) (w : World) : Calls Try.prog 103 #[.agg #[.int .i64 a, .int .i64 b, .int .i64 c], .agg #[.int .i64 d, .int .i64 e, .int .i64 f]] w fun x w' => x = .returned (.int .i64 q) ∧ Below w.heap.size w w' := by
  rw [← hq]; exact cmp_any a b c d e f w

end Go.Proofs.Ytfebeafonifpdaa.V
