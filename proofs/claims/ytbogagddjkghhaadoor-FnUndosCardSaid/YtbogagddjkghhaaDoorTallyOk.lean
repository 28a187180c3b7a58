/-
  What TallyOk of the model answers: its contract. No statement is proved here.
-/
import Derived.Test.YtbogagddjkghhaaDoorBal2
import Derived.IntWalk
set_option linter.unusedVariables false
set_option maxRecDepth 100000
namespace Go.Proofs.YtbogagddjkghhaaDoor.V
open Go.RowKit Go.Proofs.YtbogagddjkghhaaDoor.B

def viewB (n : Int) : Bool := decide (0 ≤ n ∧ n ≤ 9)
def valB (n : Int) : Bool := decide (1 ≤ n ∧ n ≤ 60)
def cmp3 (p u : B3) : Int := if p.2.1 ≠ u.2.1 then (if p.2.1 < u.2.1 then -1 else 1) else if p.1 < u.1 then -1 else if u.1 < p.1 then 1 else 0
def b3Ok (u : B3) : Bool := decide (0 ≤ u.1 ∧ u.1 < 7) && viewB u.2.1 && valB u.2.2
def goodB (vs : List B3) (i : Nat) : Bool := b3Ok (vs.getD i z3) && (decide (i = 0) || decide (cmp3 (vs.getD (i - 1) z3) (vs.getD i z3) < 0))
def tallyOkB (vs : List B3) : Bool := (List.range vs.length).all (goodB vs)
theorem tallyOk_yes {vs : List B3} (h : ∀ j, j < vs.length → goodB vs j = true) : tallyOkB vs = true := by
  unfold tallyOkB
  rw [List.all_eq_true]
  intro j hj
  exact h j (List.mem_range.1 hj)
theorem tallyOk_no {vs : List B3} {k : Nat} (hk : k < vs.length) (h : goodB vs k = false) : tallyOkB vs = false := by
  unfold tallyOkB
  rw [List.all_eq_false]
  exact ⟨k, List.mem_range.2 hk, by simp [h]⟩

theorem specView3_is (n : Int) (q : Bool) (h : viewB n = q) (w : World) : Calls Tryd.prog 41 #[.int .i64 n] w fun e w' => e = .returned (.bool q) ∧ w' = w := by
  subst h
  unfold viewB
  by_cases h1 : 0 ≤ n
  · by_cases h2 : n ≤ 9
    all_goals
      go_enter Tryd.func41, Tryd.ntmps41
      go_wp2
      go_ret
      exact ⟨ret_boolB (by simp; try omega), rfl⟩
  · go_enter Tryd.func41, Tryd.ntmps41
    go_wp2
    go_ret
    exact ⟨ret_boolB (by simp; try omega), rfl⟩
theorem specVal3_is (n : Int) (q : Bool) (h : valB n = q) (w : World) : Calls Tryd.prog 42 #[.int .i64 n] w fun e w' => e = .returned (.bool q) ∧ w' = w := by
  subst h
  unfold valB
  by_cases h1 : 1 ≤ n
  · by_cases h2 : n ≤ 60
    all_goals
      go_enter Tryd.func42, Tryd.ntmps42
      go_wp2
      go_ret
      exact ⟨ret_boolB (by simp; try omega), rfl⟩
  · go_enter Tryd.func42, Tryd.ntmps42
    go_wp2
    go_ret
    exact ⟨ret_boolB (by simp; try omega), rfl⟩

theorem ret_int {a b : Int} (h : a = b) : Ending.returned (.int .i64 a) = .returned (.int .i64 b) := by rw [h]
end Go.Proofs.YtbogagddjkghhaaDoor.V
