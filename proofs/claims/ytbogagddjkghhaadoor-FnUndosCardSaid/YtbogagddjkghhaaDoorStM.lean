/-
  CmdOk, CmdVal, ValCmd and StoreOk of the model and of the program: contracts. No statement is proved here.
-/
import Derived.Test.YtbogagddjkghhaaDoorStK
import Derived.IntWalk
set_option linter.unusedVariables false
set_option maxRecDepth 100000
namespace Go.Proofs.YtbogagddjkghhaaDoor.V
open Go.RowKit Go.Proofs.YtbogagddjkghhaaDoor.B

def cmdB (k y n : Int) : Bool := decide (0 ≤ k ∧ k ≤ 2 ∧ 0 ≤ y ∧ y < 4 ∧ 0 ≤ n ∧ n < 5 ∧ (k = 0 → n = 0))
def cmdV (k y n : Int) : Int := if cmdB k y n then 1 + k * 20 + y * 5 + n else 0
theorem cmdB_yes {k y n : Int} (h : cmdB k y n = true) : 0 ≤ k ∧ k ≤ 2 ∧ 0 ≤ y ∧ y < 4 ∧ 0 ≤ n ∧ n < 5 ∧ (k = 0 → n = 0) := by
  unfold cmdB at h; exact of_decide_eq_true h
theorem cmdB_no {k y n : Int} (h : k < 0 ∨ 2 < k ∨ y < 0 ∨ 4 ≤ y ∨ n < 0 ∨ 5 ≤ n ∨ (k = 0 ∧ n ≠ 0)) : false = cmdB k y n := by
  unfold cmdB; symm; exact decide_eq_false (by omega)
def inB (x : Int) : Bool := decide (0 ≤ x ∧ x ≤ 1000)
def stB (xs : List Int) (n : Int) : Bool := decide (xs.length = 4 ∧ 0 ≤ n ∧ n ≤ 1000) && xs.all inB
set_option maxHeartbeats 800000 in
theorem implCmdOk_any (k y n : Int) (w : World) : Calls Tryd.prog 60 #[.agg #[.int .i64 k, .int .i64 y, .int .i64 n]] w fun e w' => e = .returned (.bool (cmdB k y n)) ∧ Below w.heap.size w w' := by
  by_cases h0 : k < 0
  · have g0 : ¬ 0 ≤ k := by omega
    go_enter Tryd.func60, Tryd.ntmps60
    go_wp2_with (go_in)
    go_ret
    exact ⟨ret_boolB (cmdB_no (by omega)), (by repeat (first | exact Below.refl _ _ | refine Below.alloc ?_ (by simp) _))⟩
  have g0 : 0 ≤ k := by omega
  clear h0
  by_cases h1 : 2 < k
  · have g1 : ¬ k ≤ 2 := by omega
    go_enter Tryd.func60, Tryd.ntmps60
    go_wp2_with (go_in)
    go_ret
    exact ⟨ret_boolB (cmdB_no (by omega)), (by repeat (first | exact Below.refl _ _ | refine Below.alloc ?_ (by simp) _))⟩
  have g1 : k ≤ 2 := by omega
  clear h1
  by_cases h2 : y < 0
  · have g2 : ¬ 0 ≤ y := by omega
    go_enter Tryd.func60, Tryd.ntmps60
    go_wp2_with (go_in)
    go_ret
    exact ⟨ret_boolB (cmdB_no (by omega)), (by repeat (first | exact Below.refl _ _ | refine Below.alloc ?_ (by simp) _))⟩
  have g2 : 0 ≤ y := by omega
  clear h2
  by_cases h3 : 4 ≤ y
  · have g3 : ¬ y < 4 := by omega
    go_enter Tryd.func60, Tryd.ntmps60
    go_wp2_with (go_in)
    go_ret
    exact ⟨ret_boolB (cmdB_no (by omega)), (by repeat (first | exact Below.refl _ _ | refine Below.alloc ?_ (by simp) _))⟩
  have g3 : y < 4 := by omega
  clear h3
  by_cases h4 : n < 0
  · have g4 : ¬ 0 ≤ n := by omega
    go_enter Tryd.func60, Tryd.ntmps60
    go_wp2_with (go_in)
    go_ret
    exact ⟨ret_boolB (cmdB_no (by omega)), (by repeat (first | exact Below.refl _ _ | refine Below.alloc ?_ (by simp) _))⟩
  have g4 : 0 ≤ n := by omega
  clear h4
  by_cases h5 : 5 ≤ n
  · have g5 : ¬ n < 5 := by omega
    go_enter Tryd.func60, Tryd.ntmps60
    go_wp2_with (go_in)
    go_ret
    exact ⟨ret_boolB (cmdB_no (by omega)), (by repeat (first | exact Below.refl _ _ | refine Below.alloc ?_ (by simp) _))⟩
  have g5 : n < 5 := by omega
  clear h5
  by_cases h6 : k = 0
  · subst h6
    by_cases h7 : n = 0
    · subst h7
      have e : cmdB 0 y 0 = true := by unfold cmdB; exact decide_eq_true (by omega)
      rw [e]
      clear e
      go_enter Tryd.func60, Tryd.ntmps60
      go_wp2_with (go_in)
      go_ret
      exact ⟨rfl, (by repeat (first | exact Below.refl _ _ | refine Below.alloc ?_ (by simp) _))⟩
    · have g7 : (n == 0) = false := by simpa using h7
      have e : cmdB 0 y n = false := (cmdB_no (by omega)).symm
      rw [e]
      clear e
      go_enter Tryd.func60, Tryd.ntmps60
      go_wp2_with (go_in)
      go_ret
      exact ⟨rfl, (by repeat (first | exact Below.refl _ _ | refine Below.alloc ?_ (by simp) _))⟩
  · have g8 : (k != 0) = true := by simpa using h6
    have g9 : (k == 0) = false := by simpa using h6
    have e : cmdB k y n = true := by unfold cmdB; exact decide_eq_true (by omega)
    rw [e]
    clear e
    go_enter Tryd.func60, Tryd.ntmps60
    go_wp2_with (go_in)
    go_ret
    exact ⟨rfl, (by repeat (first | exact Below.refl _ _ | refine Below.alloc ?_ (by simp) _))⟩
theorem implCmdOk_is (q : Bool) (k y n : Int) (hq : cmdB k y n = q) (w : World) : Calls Tryd.prog 60 #[.agg #[.int .i64 k, .int .i64 y, .int .i64 n]] w fun e w' => e = .returned (.bool q) ∧ Below w.heap.size w w' := by
  rw [← hq]; exact implCmdOk_any k y n w
def okV (v : Int) : Bool := valB v && cmdB ((v - 1) / 20) ((v - 1) % 20 / 5) ((v - 1) % 5)
def kV (v : Int) : Int := if okV v then (v - 1) / 20 else 0
def yV (v : Int) : Int := if okV v then (v - 1) % 20 / 5 else 0
def nV (v : Int) : Int := if okV v then (v - 1) % 5 else 0
theorem implVal7_is (n : Int) (q : Bool) (h : valB n = q) (w : World) : Calls Tryd.prog 110 #[.int .i64 n] w fun e w' => e = .returned (.bool q) ∧ w' = w := by
  subst h
  unfold valB
  by_cases h1 : 1 ≤ n
  · by_cases h2 : n ≤ 60
    all_goals
      go_enter Tryd.func110, Tryd.ntmps110
      go_wp2
      go_ret
      exact ⟨ret_boolB (by simp; try omega), rfl⟩
  · go_enter Tryd.func110, Tryd.ntmps110
    go_wp2
    go_ret
    exact ⟨ret_boolB (by simp; try omega), rfl⟩
end Go.Proofs.YtbogagddjkghhaaDoor.V
