/-
  What the two functions VotesOk, of the program and of its model, answer: contracts. No statement is proved here.
-/
import Derived.Test.YtfdfjmibjnmhpaaVotes
import Derived.IntWalk
set_option linter.unusedVariables false
set_option maxRecDepth 100000
namespace Go.Proofs.Ytfdfjmibjnmhpaa.V
open Go.RowKit Go.Proofs.Ytfdfjmibjnmhpaa.B

def viewOkB (n : Int) : Bool := decide (0 ≤ n ∧ n ≤ 9)
def valOkB (n : Int) : Bool := decide (1 ≤ n ∧ n ≤ 60)
def goodAt (vs : List (Int × Int)) (below : Int) (i : Nat) : Bool :=
  viewOkB (vs.getD i (0, 0)).1 && valOkB (vs.getD i (0, 0)).2 && decide ((vs.getD i (0, 0)).1 < below) && (decide (i = 0) || decide ((vs.getD (i - 1) (0, 0)).1 < (vs.getD i (0, 0)).1))
def votesOkB (vs : List (Int × Int)) (below : Int) : Bool := (List.range vs.length).all (goodAt vs below)

theorem votesOk_yes {vs : List (Int × Int)} {below : Int} (h : ∀ j, j < vs.length → goodAt vs below j = true) : votesOkB vs below = true := by
  unfold votesOkB
  rw [List.all_eq_true]
  intro j hj
  exact h j (List.mem_range.1 hj)
theorem votesOk_no {vs : List (Int × Int)} {below : Int} {k : Nat} (hk : k < vs.length) (h : goodAt vs below k = false) : votesOkB vs below = false := by
  unfold votesOkB
  rw [List.all_eq_false]
  exact ⟨k, List.mem_range.2 hk, by simp [h]⟩

theorem specView_is (n : Int) (q : Bool) (h : viewOkB n = q) (w : World) : Calls Try.prog 72 #[.int .i64 n] w fun e w' => e = .returned (.bool q) ∧ w' = w := by
  subst h
  unfold viewOkB
  by_cases h1 : 0 ≤ n
  · by_cases h2 : n ≤ 9
    all_goals
      go_enter Try.func72, Try.ntmps72
      go_wp2
      go_ret
      exact ⟨ret_bool (by simp; try omega), rfl⟩
  · go_enter Try.func72, Try.ntmps72
    go_wp2
    go_ret
    exact ⟨ret_bool (by simp; try omega), rfl⟩
theorem specVal_is (n : Int) (q : Bool) (h : valOkB n = q) (w : World) : Calls Try.prog 71 #[.int .i64 n] w fun e w' => e = .returned (.bool q) ∧ w' = w := by
  subst h
  unfold valOkB
  by_cases h1 : 1 ≤ n
  · by_cases h2 : n ≤ 60
    all_goals
      go_enter Try.func71, Try.ntmps71
      go_wp2
      go_ret
      exact ⟨ret_bool (by simp; try omega), rfl⟩
  · go_enter Try.func71, Try.ntmps71
    go_wp2
    go_ret
    exact ⟨ret_bool (by simp; try omega), rfl⟩
theorem implView_is (n : Int) (q : Bool) (h : viewOkB n = q) (w : World) : Calls Try.prog 82 #[.int .i64 n] w fun e w' => e = .returned (.bool q) ∧ w' = w := by
  subst h
  unfold viewOkB
  by_cases h1 : 0 ≤ n
  · by_cases h2 : n ≤ 9
    all_goals
      go_enter Try.func82, Try.ntmps82
      go_wp2
      go_ret
      exact ⟨ret_bool (by simp; try omega), rfl⟩
  · go_enter Try.func82, Try.ntmps82
    go_wp2
    go_ret
    exact ⟨ret_bool (by simp; try omega), rfl⟩
theorem implVal_is (n : Int) (q : Bool) (h : valOkB n = q) (w : World) : Calls Try.prog 81 #[.int .i64 n] w fun e w' => e = .returned (.bool q) ∧ w' = w := by
  subst h
  unfold valOkB
  by_cases h1 : 1 ≤ n
  · by_cases h2 : n ≤ 60
    all_goals
      go_enter Try.func81, Try.ntmps81
      go_wp2
      go_ret
      exact ⟨ret_bool (by simp; try omega), rfl⟩
  · go_enter Try.func81, Try.ntmps81
    go_wp2
    go_ret
    exact ⟨ret_bool (by simp; try omega), rfl⟩

def voteOkB (a b below : Int) : Bool := viewOkB a && decide (a < below) && valOkB b
theorem voteOk_is (a b below : Int) (q : Bool) (h : voteOkB a b below = q) (w : World) :
    Calls Try.prog 107 #[.agg #[.int .i64 a, .int .i64 b], .int .i64 below] w fun e w' => e = .returned (.bool q) ∧ Below w.heap.size w w' := by
  subst h
  unfold voteOkB
  rcases h1 : viewOkB a with _ | _
  · have H1 := Lib.hid h1; clear h1
    go_enter Try.func107, Try.ntmps107
    go_wp2_with (go_at_call 82; refine (implView_is a false H1.out _).mono ?_; rintro e w1 ⟨rfl, rfl⟩)
    go_ret
    exact ⟨ret_bool (by simp), (Below.refl _ _).alloc (Nat.le_refl _) _⟩
  · have H1 := Lib.hid h1; clear h1
    by_cases h2 : a < below
    · rcases h3 : valOkB b with _ | _
      · have H3 := Lib.hid h3; clear h3
        go_enter Try.func107, Try.ntmps107
        go_wp2_with (first | (go_at_call 82; refine (implView_is a true H1.out _).mono ?_; rintro e w1 ⟨rfl, rfl⟩) | (go_at_call 81; refine (implVal_is b false H3.out _).mono ?_; rintro e w1 ⟨rfl, rfl⟩))
        go_ret
        exact ⟨ret_bool (by simp), (Below.refl _ _).alloc (Nat.le_refl _) _⟩
      · have H3 := Lib.hid h3; clear h3
        go_enter Try.func107, Try.ntmps107
        go_wp2_with (first | (go_at_call 82; refine (implView_is a true H1.out _).mono ?_; rintro e w1 ⟨rfl, rfl⟩) | (go_at_call 81; refine (implVal_is b true H3.out _).mono ?_; rintro e w1 ⟨rfl, rfl⟩))
        go_ret
        exact ⟨ret_bool (by simp [h2]), (Below.refl _ _).alloc (Nat.le_refl _) _⟩
    · go_enter Try.func107, Try.ntmps107
      go_wp2_with (go_at_call 82; refine (implView_is a true H1.out _).mono ?_; rintro e w1 ⟨rfl, rfl⟩)
      go_ret
      exact ⟨ret_bool (by simp; omega), (Below.refl _ _).alloc (Nat.le_refl _) _⟩

theorem Below.drewN_ {Bd : Nat} (w : World) (n : Nat) : Below Bd w (w.drewN n) := ⟨rfl, rfl, rfl, Nat.le_refl _, fun _ _ => rfl⟩

theorem Rd.prev {w : World} {Bd b off n : Nat} {c : Nat} {vs : List (Int × Int)} (h : Rd w Bd (some ⟨b, off, none⟩) vs) {k : Nat} (hk : k < vs.length) (h0 : 0 < k) :
    w.cell? ⟨b, off + (k - 1) * 2, none⟩ = some (.int .i64 (vs.getD (k - 1) (0, 0)).1) := by
  obtain ⟨b', off', e, hb, hc⟩ := h (by omega)
  injection e with e
  injection e with e1 e2
  subst e1 e2
  exact (hc (k - 1) (by omega)).1

end Go.Proofs.Ytfdfjmibjnmhpaa.V
