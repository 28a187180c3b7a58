/-
  CmdOk, CmdVal, ValCmd and StoreOk of the model and of the program: contracts. No statement is proved here.
-/
import Derived.Test.YtfebeafonifpdaaStK
import Derived.IntWalk
set_option linter.unusedVariables false
set_option maxRecDepth 100000
namespace Go.Proofs.Ytfebeafonifpdaa.V
open Go.RowKit Go.Proofs.Ytfebeafonifpdaa.B

def cmdB (k y n : Int) : Bool := decide (0 ≤ k ∧ k ≤ 2 ∧ 0 ≤ y ∧ y < 4 ∧ 0 ≤ n ∧ n < 5 ∧ (k = 0 → n = 0))
def cmdV (k y n : Int) : Int := if cmdB k y n then 1 + k * 20 + y * 5 + n else 0
theorem cmdB_yes {k y n : Int} (h : cmdB k y n = true) : 0 ≤ k ∧ k ≤ 2 ∧ 0 ≤ y ∧ y < 4 ∧ 0 ≤ n ∧ n < 5 ∧ (k = 0 → n = 0) := by
  unfold cmdB at h; exact of_decide_eq_true h
theorem cmdB_no {k y n : Int} (h : k < 0 ∨ 2 < k ∨ y < 0 ∨ 4 ≤ y ∨ n < 0 ∨ 5 ≤ n ∨ (k = 0 ∧ n ≠ 0)) : false = cmdB k y n := by
  unfold cmdB; symm; exact decide_eq_false (by omega)
def inB (x : Int) : Bool := decide (0 ≤ x ∧ x ≤ 1000)
def stB (xs : List Int) (n : Int) : Bool := decide (xs.length = 4 ∧ 0 ≤ n ∧ n ≤ 1000) && xs.all inB
set_option maxHeartbeats 800000 in
theorem specCmdOk_any (k y n : Int) (w : World) : Calls Try.prog 21 #[.agg #[.int .i64 k, .int .i64 y, .int .i64 n]] w fun e w' => e = .returned (.bool (cmdB k y n)) ∧ Below w.heap.size w w' := by
  by_cases h0 : k < 0
  · have g0 : ¬ 0 ≤ k := by omega
    go_enter Try.func21, Try.ntmps21
    go_wp2
    go_ret
    exact ⟨ret_boolB (cmdB_no (by omega)), (by repeat (first | exact Below.refl _ _ | refine Below.alloc ?_ (by simp) _))⟩
  have g0 : 0 ≤ k := by omega
  clear h0
  by_cases h1 : 2 < k
  · have g1 : ¬ k ≤ 2 := by omega
    go_enter Try.func21, Try.ntmps21
    go_wp2
    go_ret
    exact ⟨ret_boolB (cmdB_no (by omega)), (by repeat (first | exact Below.refl _ _ | refine Below.alloc ?_ (by simp) _))⟩
  have g1 : k ≤ 2 := by omega
  clear h1
  by_cases h2 : y < 0
  · have g2 : ¬ 0 ≤ y := by omega
    go_enter Try.func21, Try.ntmps21
    go_wp2
    go_ret
    exact ⟨ret_boolB (cmdB_no (by omega)), (by repeat (first | exact Below.refl _ _ | refine Below.alloc ?_ (by simp) _))⟩
  have g2 : 0 ≤ y := by omega
  clear h2
  by_cases h3 : 4 ≤ y
  · have g3 : ¬ y < 4 := by omega
    go_enter Try.func21, Try.ntmps21
    go_wp2
    go_ret
    exact ⟨ret_boolB (cmdB_no (by omega)), (by repeat (first | exact Below.refl _ _ | refine Below.alloc ?_ (by simp) _))⟩
  have g3 : y < 4 := by omega
  clear h3
  by_cases h4 : n < 0
  · have g4 : ¬ 0 ≤ n := by omega
    go_enter Try.func21, Try.ntmps21
    go_wp2
    go_ret
    exact ⟨ret_boolB (cmdB_no (by omega)), (by repeat (first | exact Below.refl _ _ | refine Below.alloc ?_ (by simp) _))⟩
  have g4 : 0 ≤ n := by omega
  clear h4
  by_cases h5 : 5 ≤ n
  · have g5 : ¬ n < 5 := by omega
    go_enter Try.func21, Try.ntmps21
    go_wp2
    go_ret
    exact ⟨ret_boolB (cmdB_no (by omega)), (by repeat (first | exact Below.refl _ _ | refine Below.alloc ?_ (by simp) _))⟩
  have g5 : n < 5 := by omega
  clear h5
  by_cases h6 : k = 0
  · subst h6
    by_cases h7 : n = 0
    · subst h7
      have e : cmdB 0 y 0 = true := by unfold cmdB; exact decide_eq_true (by omega)
      rw [e]
      clear e
      go_enter Try.func21, Try.ntmps21
      go_wp2
      go_ret
      exact ⟨rfl, (by repeat (first | exact Below.refl _ _ | refine Below.alloc ?_ (by simp) _))⟩
    · have g7 : (n == 0) = false := by simpa using h7
      have e : cmdB 0 y n = false := (cmdB_no (by omega)).symm
      rw [e]
      clear e
      go_enter Try.func21, Try.ntmps21
      go_wp2
      go_ret
      exact ⟨rfl, (by repeat (first | exact Below.refl _ _ | refine Below.alloc ?_ (by simp) _))⟩
  · have g8 : (k != 0) = true := by simpa using h6
    have g9 : (k == 0) = false := by simpa using h6
    have e : cmdB k y n = true := by unfold cmdB; exact decide_eq_true (by omega)
    rw [e]
    clear e
    go_enter Try.func21, Try.ntmps21
    go_wp2
    go_ret
    exact ⟨rfl, (by repeat (first | exact Below.refl _ _ | refine Below.alloc ?_ (by simp) _))⟩
theorem specCmdOk_is (q : Bool) (k y n : Int) (hq : cmdB k y n = q) (w : World) : Calls Try.prog 21 #[.agg #[.int .i64 k, .int .i64 y, .int .i64 n]] w fun e w' => e = .returned (.bool q) ∧ Below w.heap.size w w' := by
  rw [← hq]; exact specCmdOk_any k y n w
set_option maxHeartbeats 800000 in
theorem implCmdOk_any (k y n : Int) (w : World) : Calls Try.prog 22 #[.agg #[.int .i64 k, .int .i64 y, .int .i64 n]] w fun e w' => e = .returned (.bool (cmdB k y n)) ∧ Below w.heap.size w w' := by
  by_cases h0 : k < 0
  · have g0 : ¬ 0 ≤ k := by omega
    go_enter Try.func22, Try.ntmps22
    go_wp2_with (go_in)
    go_ret
    exact ⟨ret_boolB (cmdB_no (by omega)), (by repeat (first | exact Below.refl _ _ | refine Below.alloc ?_ (by simp) _))⟩
  have g0 : 0 ≤ k := by omega
  clear h0
  by_cases h1 : 2 < k
  · have g1 : ¬ k ≤ 2 := by omega
    go_enter Try.func22, Try.ntmps22
    go_wp2_with (go_in)
    go_ret
    exact ⟨ret_boolB (cmdB_no (by omega)), (by repeat (first | exact Below.refl _ _ | refine Below.alloc ?_ (by simp) _))⟩
  have g1 : k ≤ 2 := by omega
  clear h1
  by_cases h2 : y < 0
  · have g2 : ¬ 0 ≤ y := by omega
    go_enter Try.func22, Try.ntmps22
    go_wp2_with (go_in)
    go_ret
    exact ⟨ret_boolB (cmdB_no (by omega)), (by repeat (first | exact Below.refl _ _ | refine Below.alloc ?_ (by simp) _))⟩
  have g2 : 0 ≤ y := by omega
  clear h2
  by_cases h3 : 4 ≤ y
  · have g3 : ¬ y < 4 := by omega
    go_enter Try.func22, Try.ntmps22
    go_wp2_with (go_in)
    go_ret
    exact ⟨ret_boolB (cmdB_no (by omega)), (by repeat (first | exact Below.refl _ _ | refine Below.alloc ?_ (by simp) _))⟩
  have g3 : y < 4 := by omega
  clear h3
  by_cases h4 : n < 0
  · have g4 : ¬ 0 ≤ n := by omega
    go_enter Try.func22, Try.ntmps22
    go_wp2_with (go_in)
    go_ret
    exact ⟨ret_boolB (cmdB_no (by omega)), (by repeat (first | exact Below.refl _ _ | refine Below.alloc ?_ (by simp) _))⟩
  have g4 : 0 ≤ n := by omega
  clear h4
  by_cases h5 : 5 ≤ n
  · have g5 : ¬ n < 5 := by omega
    go_enter Try.func22, Try.ntmps22
    go_wp2_with (go_in)
    go_ret
    exact ⟨ret_boolB (cmdB_no (by omega)), (by repeat (first | exact Below.refl _ _ | refine Below.alloc ?_ (by simp) _))⟩
  have g5 : n < 5 := by omega
  clear h5
  by_cases h6 : k = 0
  · subst h6
    by_cases h7 : n = 0
    · subst h7
      have e : cmdB 0 y 0 = true := by unfold cmdB; exact decide_eq_true (by omega)
      rw [e]
      clear e
      go_enter Try.func22, Try.ntmps22
      go_wp2_with (go_in)
      go_ret
      exact ⟨rfl, (by repeat (first | exact Below.refl _ _ | refine Below.alloc ?_ (by simp) _))⟩
    · have g7 : (n == 0) = false := by simpa using h7
      have e : cmdB 0 y n = false := (cmdB_no (by omega)).symm
      rw [e]
      clear e
      go_enter Try.func22, Try.ntmps22
      go_wp2_with (go_in)
      go_ret
      exact ⟨rfl, (by repeat (first | exact Below.refl _ _ | refine Below.alloc ?_ (by simp) _))⟩
  · have g8 : (k != 0) = true := by simpa using h6
    have g9 : (k == 0) = false := by simpa using h6
    have e : cmdB k y n = true := by unfold cmdB; exact decide_eq_true (by omega)
    rw [e]
    clear e
    go_enter Try.func22, Try.ntmps22
    go_wp2_with (go_in)
    go_ret
    exact ⟨rfl, (by repeat (first | exact Below.refl _ _ | refine Below.alloc ?_ (by simp) _))⟩
theorem implCmdOk_is (q : Bool) (k y n : Int) (hq : cmdB k y n = q) (w : World) : Calls Try.prog 22 #[.agg #[.int .i64 k, .int .i64 y, .int .i64 n]] w fun e w' => e = .returned (.bool q) ∧ Below w.heap.size w w' := by
  rw [← hq]; exact implCmdOk_any k y n w
theorem specCmdVal_any (k y n : Int) (w : World) : Calls Try.prog 37 #[.agg #[.int .i64 k, .int .i64 y, .int .i64 n]] w fun e w' => e = .returned (.int .i64 (cmdV k y n)) ∧ Below w.heap.size w w' := by
  have ka := Blk.new w 24 #[.int .i64 k, .int .i64 y, .int .i64 n]
  have hB := up_ (Below.refl w.heap.size w) (.cells #[.int .i64 k, .int .i64 y, .int .i64 n] 24)
  rcases hq : cmdB k y n with _ | _
  · have e : cmdV k y n = 0 := by simp [cmdV, hq]
    rw [e]
    have HQ := Lib.hid hq; clear hq e
    go_enter Try.func37, Try.ntmps37
    go_wp2_with fail
    refine (specCmdOk_is false k y n HQ.out _).mono ?_
    rintro e w1 ⟨rfl, hb⟩
    have ra := (ka.on hb).rule
    have hB1 := on_ hB hb
    clear hb ka hB
    go_wp2
    go_ret
    exact ⟨rfl, hB1⟩
  · have e : cmdV k y n = 1 + k * 20 + y * 5 + n := by simp [cmdV, hq]
    rw [e]
    obtain ⟨h1, h2, h3, h4, h5, h6, h7⟩ := cmdB_yes hq
    have HQ := Lib.hid hq; clear hq e h7
    go_enter Try.func37, Try.ntmps37
    go_wp2_with fail
    refine (specCmdOk_is true k y n HQ.out _).mono ?_
    rintro e w1 ⟨rfl, hb⟩
    have ra := (ka.on hb).rule
    have hB1 := on_ hB hb
    clear hb ka hB
    go_wp2
    go_ret
    exact ⟨ret_int (by simp <;> (try unfold wrap64) <;> omega), hB1⟩
theorem implCmdVal_any (k y n : Int) (w : World) : Calls Try.prog 18 #[.agg #[.int .i64 k, .int .i64 y, .int .i64 n]] w fun e w' => e = .returned (.int .i64 (cmdV k y n)) ∧ Below w.heap.size w w' := by
  have ka := Blk.new w 24 #[.int .i64 k, .int .i64 y, .int .i64 n]
  have hB := up_ (Below.refl w.heap.size w) (.cells #[.int .i64 k, .int .i64 y, .int .i64 n] 24)
  rcases hq : cmdB k y n with _ | _
  · have e : cmdV k y n = 0 := by simp [cmdV, hq]
    rw [e]
    have HQ := Lib.hid hq; clear hq e
    go_enter Try.func18, Try.ntmps18
    go_wp2_with fail
    refine (implCmdOk_is false k y n HQ.out _).mono ?_
    rintro e w1 ⟨rfl, hb⟩
    have ra := (ka.on hb).rule
    have hB1 := on_ hB hb
    clear hb ka hB
    go_wp2
    go_ret
    exact ⟨rfl, hB1⟩
  · have e : cmdV k y n = 1 + k * 20 + y * 5 + n := by simp [cmdV, hq]
    rw [e]
    obtain ⟨h1, h2, h3, h4, h5, h6, h7⟩ := cmdB_yes hq
    have HQ := Lib.hid hq; clear hq e h7
    go_enter Try.func18, Try.ntmps18
    go_wp2_with fail
    refine (implCmdOk_is true k y n HQ.out _).mono ?_
    rintro e w1 ⟨rfl, hb⟩
    have ra := (ka.on hb).rule
    have hB1 := on_ hB hb
    clear hb ka hB
    go_wp2
    go_ret
    exact ⟨ret_int (by simp <;> (try unfold wrap64) <;> omega), hB1⟩

def okV (v : Int) : Bool := valB v && cmdB ((v - 1) / 20) ((v - 1) % 20 / 5) ((v - 1) % 5)
def kV (v : Int) : Int := if okV v then (v - 1) / 20 else 0
def yV (v : Int) : Int := if okV v then (v - 1) % 20 / 5 else 0
def nV (v : Int) : Int := if okV v then (v - 1) % 5 else 0
set_option maxHeartbeats 1600000 in
theorem specValCmd_any (v : Int) (w : World) : Calls Try.prog 38 #[.int .i64 v] w fun e w' => e = .returned (.tuple #[.agg #[.int .i64 (kV v), .int .i64 (yV v), .int .i64 (nV v)], .bool (okV v)]) ∧ Below w.heap.size w w' := by
  rcases hv : valB v with _ | _
  · have e0 : okV v = false := by simp [okV, hv]
    have e1 : kV v = 0 := by simp [kV, e0]
    have e2 : yV v = 0 := by simp [yV, e0]
    have e3 : nV v = 0 := by simp [nV, e0]
    rw [e0, e1, e2, e3]
    have HV := Lib.hid hv; clear hv e0 e1 e2 e3
    go_enter Try.func38, Try.ntmps38
    go_wp2_with fail
    refine (specVal3_is v false HV.out _).mono ?_
    rintro e w1 ⟨rfl, rfl⟩
    go_wp2
    refine bodyPost_ret (v := .tuple #[.agg #[.int .i64 0, .int .i64 0, .int .i64 0], .bool false]) (by simp [results, Try.results38, go_sem]) rfl ⟨rfl, ?_⟩
    repeat (first | exact Below.refl _ _ | refine Below.alloc ?_ (by simp) _ | refine Below.setCell ?_ (by simp) _)
  · have h1 : 1 ≤ v ∧ v ≤ 60 := by unfold valB at hv; exact of_decide_eq_true hv
    obtain ⟨h1, h2⟩ := h1
    obtain ⟨a, rfl⟩ : ∃ a, v = a + 1 := ⟨v - 1, by omega⟩
    have ea : a + 1 - 1 = a := by omega
    have b1 : 0 ≤ a := by omega
    have b2 : a ≤ 59 := by omega
    have hk0 : 0 ≤ a / 20 := by omega
    have hk1 : a / 20 ≤ 2 := by omega
    have hm0 : 0 ≤ a % 20 := by omega
    have hm1 : a % 20 < 20 := by omega
    have hy0 : 0 ≤ a % 20 / 5 := by omega
    have hy1 : a % 20 / 5 < 4 := by omega
    have hn0 : 0 ≤ a % 5 := by omega
    have hn1 : a % 5 < 5 := by omega
    rcases hq : cmdB (a / 20) (a % 20 / 5) (a % 5) with _ | _
    · have e0 : okV (a + 1) = false := by simp [okV, ea, hq]
      have e1 : kV (a + 1) = 0 := by simp [kV, e0]
      have e2 : yV (a + 1) = 0 := by simp [yV, e0]
      have e3 : nV (a + 1) = 0 := by simp [nV, e0]
      rw [e0, e1, e2, e3]
      have HV := Lib.hid hv; have HQ := Lib.hid hq; clear hv hq e0 e1 e2 e3
      go_enter Try.func38, Try.ntmps38
      go_wp2_with fail
      refine (specVal3_is _ true HV.out _).mono ?_
      rintro e w1 ⟨rfl, rfl⟩
      go_wp2_with fail
      refine (specCmdOk_is false _ _ _ HQ.out _).mono ?_
      rintro e w1 ⟨rfl, hb⟩
      have kr := ((Blk.new w 24 #[.int .i64 0, .int .i64 0, .int .i64 0]).alloc (.cells #[.int .i64 (a / 20), .int .i64 (a % 20 / 5), .int .i64 (a % 5)] 24)).on hb
      have kc0 := Blk.new (w.alloc (.cells #[.int .i64 0, .int .i64 0, .int .i64 0] 24)) 24 #[.int .i64 (a / 20), .int .i64 (a % 20 / 5), .int .i64 (a % 5)]
      simp only [World.size_alloc] at kc0
      have kc := kc0.on hb
      have hB := on_ (up_ (up_ (Below.refl w.heap.size w) _) _) hb
      clear hb kc0
      have rr_0 := kr.rule
      have fr_0 := fun i => kr.frozen i
      have rc_0 := kc.rule
      have fc_0 := fun i => kc.frozen i
      have kr_1 : Blk (w1.setCell ⟨w.heap.size, 0, none⟩ (.int .i64 0)) (w.heap.size) 24 #[.int .i64 0, .int .i64 0, .int .i64 0] := kr.set_ 0 _
      have kc_1 := kc.far (p := ⟨w.heap.size, 0, none⟩) (by simp <;> omega) (.int .i64 0)
      have rr_1 := kr_1.rule
      have fr_1 := fun i => kr_1.frozen i
      have rc_1 := kc_1.rule
      have fc_1 := fun i => kc_1.frozen i
      have kr_2 : Blk ((w1.setCell ⟨w.heap.size, 0, none⟩ (.int .i64 0)).setCell ⟨w.heap.size, 1, none⟩ (.int .i64 0)) (w.heap.size) 24 #[.int .i64 0, .int .i64 0, .int .i64 0] := kr_1.set_ 1 _
      have kc_2 := kc_1.far (p := ⟨w.heap.size, 1, none⟩) (by simp <;> omega) (.int .i64 0)
      have rr_2 := kr_2.rule
      have fr_2 := fun i => kr_2.frozen i
      have rc_2 := kc_2.rule
      have fc_2 := fun i => kc_2.frozen i
      have kr_3 : Blk (((w1.setCell ⟨w.heap.size, 0, none⟩ (.int .i64 0)).setCell ⟨w.heap.size, 1, none⟩ (.int .i64 0)).setCell ⟨w.heap.size, 2, none⟩ (.int .i64 0)) (w.heap.size) 24 #[.int .i64 0, .int .i64 0, .int .i64 0] := kr_2.set_ 2 _
      have kc_3 := kc_2.far (p := ⟨w.heap.size, 2, none⟩) (by simp <;> omega) (.int .i64 0)
      have rr_3 := kr_3.rule
      have fr_3 := fun i => kr_3.frozen i
      have rc_3 := kc_3.rule
      have fc_3 := fun i => kc_3.frozen i
      go_wp2
      refine bodyPost_ret (v := .tuple #[.agg #[.int .i64 0, .int .i64 0, .int .i64 0], .bool false]) (by simp [results, Try.results38, go_sem, rr_3]) rfl ⟨rfl, ?_⟩
      iterate 3 refine Below.setCell ?_ (by simp <;> omega) _
      exact hB
    · have e0 : okV (a + 1) = true := by simp [okV, ea, hq, hv]
      have e1 : kV (a + 1) = a / 20 := by simp [kV, e0, ea]
      have e2 : yV (a + 1) = a % 20 / 5 := by simp [yV, e0, ea]
      have e3 : nV (a + 1) = a % 5 := by simp [nV, e0, ea]
      rw [e0, e1, e2, e3]
      have HV := Lib.hid hv; have HQ := Lib.hid hq; clear hv hq e0 e1 e2 e3
      go_enter Try.func38, Try.ntmps38
      go_wp2_with fail
      refine (specVal3_is _ true HV.out _).mono ?_
      rintro e w1 ⟨rfl, rfl⟩
      go_wp2_with fail
      refine (specCmdOk_is true _ _ _ HQ.out _).mono ?_
      rintro e w1 ⟨rfl, hb⟩
      have kr := ((Blk.new w 24 #[.int .i64 0, .int .i64 0, .int .i64 0]).alloc (.cells #[.int .i64 (a / 20), .int .i64 (a % 20 / 5), .int .i64 (a % 5)] 24)).on hb
      have kc0 := Blk.new (w.alloc (.cells #[.int .i64 0, .int .i64 0, .int .i64 0] 24)) 24 #[.int .i64 (a / 20), .int .i64 (a % 20 / 5), .int .i64 (a % 5)]
      simp only [World.size_alloc] at kc0
      have kc := kc0.on hb
      have hB := on_ (up_ (up_ (Below.refl w.heap.size w) _) _) hb
      clear hb kc0
      have rr_0 := kr.rule
      have fr_0 := fun i => kr.frozen i
      have rc_0 := kc.rule
      have fc_0 := fun i => kc.frozen i
      have kr_1 : Blk (w1.setCell ⟨w.heap.size, 0, none⟩ (.int .i64 (a / 20))) (w.heap.size) 24 #[.int .i64 (a / 20), .int .i64 0, .int .i64 0] := kr.set_ 0 _
      have kc_1 := kc.far (p := ⟨w.heap.size, 0, none⟩) (by simp <;> omega) (.int .i64 (a / 20))
      have rr_1 := kr_1.rule
      have fr_1 := fun i => kr_1.frozen i
      have rc_1 := kc_1.rule
      have fc_1 := fun i => kc_1.frozen i
      have kr_2 : Blk ((w1.setCell ⟨w.heap.size, 0, none⟩ (.int .i64 (a / 20))).setCell ⟨w.heap.size, 1, none⟩ (.int .i64 (a % 20 / 5))) (w.heap.size) 24 #[.int .i64 (a / 20), .int .i64 (a % 20 / 5), .int .i64 0] := kr_1.set_ 1 _
      have kc_2 := kc_1.far (p := ⟨w.heap.size, 1, none⟩) (by simp <;> omega) (.int .i64 (a % 20 / 5))
      have rr_2 := kr_2.rule
      have fr_2 := fun i => kr_2.frozen i
      have rc_2 := kc_2.rule
      have fc_2 := fun i => kc_2.frozen i
      have kr_3 : Blk (((w1.setCell ⟨w.heap.size, 0, none⟩ (.int .i64 (a / 20))).setCell ⟨w.heap.size, 1, none⟩ (.int .i64 (a % 20 / 5))).setCell ⟨w.heap.size, 2, none⟩ (.int .i64 (a % 5))) (w.heap.size) 24 #[.int .i64 (a / 20), .int .i64 (a % 20 / 5), .int .i64 (a % 5)] := kr_2.set_ 2 _
      have kc_3 := kc_2.far (p := ⟨w.heap.size, 2, none⟩) (by simp <;> omega) (.int .i64 (a % 5))
      have rr_3 := kr_3.rule
      have fr_3 := fun i => kr_3.frozen i
      have rc_3 := kc_3.rule
      have fc_3 := fun i => kc_3.frozen i
      go_wp2
      refine bodyPost_ret (v := .tuple #[.agg #[.int .i64 (a / 20), .int .i64 (a % 20 / 5), .int .i64 (a % 5)], .bool true]) (by simp [results, Try.results38, go_sem, rr_3]) rfl ⟨rfl, ?_⟩
      iterate 3 refine Below.setCell ?_ (by simp <;> omega) _
      exact hB
theorem implVal7_is (n : Int) (q : Bool) (h : valB n = q) (w : World) : Calls Try.prog 63 #[.int .i64 n] w fun e w' => e = .returned (.bool q) ∧ w' = w := by
  subst h
  unfold valB
  by_cases h1 : 1 ≤ n
  · by_cases h2 : n ≤ 60
    all_goals
      go_enter Try.func63, Try.ntmps63
      go_wp2
      go_ret
      exact ⟨ret_boolB (by simp; try omega), rfl⟩
  · go_enter Try.func63, Try.ntmps63
    go_wp2
    go_ret
    exact ⟨ret_boolB (by simp; try omega), rfl⟩
set_option maxHeartbeats 1600000 in
theorem implValCmd_any (v : Int) (w : World) : Calls Try.prog 20 #[.int .i64 v] w fun e w' => e = .returned (.tuple #[.agg #[.int .i64 (kV v), .int .i64 (yV v), .int .i64 (nV v)], .bool (okV v)]) ∧ Below w.heap.size w w' := by
  rcases hv : valB v with _ | _
  · have e0 : okV v = false := by simp [okV, hv]
    have e1 : kV v = 0 := by simp [kV, e0]
    have e2 : yV v = 0 := by simp [yV, e0]
    have e3 : nV v = 0 := by simp [nV, e0]
    rw [e0, e1, e2, e3]
    have HV := Lib.hid hv; clear hv e0 e1 e2 e3
    go_enter Try.func20, Try.ntmps20
    go_wp2_with fail
    refine (implVal7_is v false HV.out _).mono ?_
    rintro e w1 ⟨rfl, rfl⟩
    go_wp2
    refine bodyPost_ret (v := .tuple #[.agg #[.int .i64 0, .int .i64 0, .int .i64 0], .bool false]) (by simp [results, Try.results20, go_sem]) rfl ⟨rfl, ?_⟩
    repeat (first | exact Below.refl _ _ | refine Below.alloc ?_ (by simp) _ | refine Below.setCell ?_ (by simp) _)
  · have h1 : 1 ≤ v ∧ v ≤ 60 := by unfold valB at hv; exact of_decide_eq_true hv
    obtain ⟨h1, h2⟩ := h1
    obtain ⟨a, rfl⟩ : ∃ a, v = a + 1 := ⟨v - 1, by omega⟩
    have ea : a + 1 - 1 = a := by omega
    have b1 : 0 ≤ a := by omega
    have b2 : a ≤ 59 := by omega
    have hk0 : 0 ≤ a / 20 := by omega
    have hk1 : a / 20 ≤ 2 := by omega
    have hm0 : 0 ≤ a % 20 := by omega
    have hm1 : a % 20 < 20 := by omega
    have hy0 : 0 ≤ a % 20 / 5 := by omega
    have hy1 : a % 20 / 5 < 4 := by omega
    have hn0 : 0 ≤ a % 5 := by omega
    have hn1 : a % 5 < 5 := by omega
    rcases hq : cmdB (a / 20) (a % 20 / 5) (a % 5) with _ | _
    · have e0 : okV (a + 1) = false := by simp [okV, ea, hq]
      have e1 : kV (a + 1) = 0 := by simp [kV, e0]
      have e2 : yV (a + 1) = 0 := by simp [yV, e0]
      have e3 : nV (a + 1) = 0 := by simp [nV, e0]
      rw [e0, e1, e2, e3]
      have HV := Lib.hid hv; have HQ := Lib.hid hq; clear hv hq e0 e1 e2 e3
      go_enter Try.func20, Try.ntmps20
      go_wp2_with fail
      refine (implVal7_is _ true HV.out _).mono ?_
      rintro e w1 ⟨rfl, rfl⟩
      go_wp2_with fail
      refine (implCmdOk_is false _ _ _ HQ.out _).mono ?_
      rintro e w1 ⟨rfl, hb⟩
      have kr := ((Blk.new w 24 #[.int .i64 0, .int .i64 0, .int .i64 0]).alloc (.cells #[.int .i64 (a / 20), .int .i64 (a % 20 / 5), .int .i64 (a % 5)] 24)).on hb
      have kc0 := Blk.new (w.alloc (.cells #[.int .i64 0, .int .i64 0, .int .i64 0] 24)) 24 #[.int .i64 (a / 20), .int .i64 (a % 20 / 5), .int .i64 (a % 5)]
      simp only [World.size_alloc] at kc0
      have kc := kc0.on hb
      have hB := on_ (up_ (up_ (Below.refl w.heap.size w) _) _) hb
      clear hb kc0
      have rr_0 := kr.rule
      have fr_0 := fun i => kr.frozen i
      have rc_0 := kc.rule
      have fc_0 := fun i => kc.frozen i
      have kr_1 : Blk (w1.setCell ⟨w.heap.size, 0, none⟩ (.int .i64 0)) (w.heap.size) 24 #[.int .i64 0, .int .i64 0, .int .i64 0] := kr.set_ 0 _
      have kc_1 := kc.far (p := ⟨w.heap.size, 0, none⟩) (by simp <;> omega) (.int .i64 0)
      have rr_1 := kr_1.rule
      have fr_1 := fun i => kr_1.frozen i
      have rc_1 := kc_1.rule
      have fc_1 := fun i => kc_1.frozen i
      have kr_2 : Blk ((w1.setCell ⟨w.heap.size, 0, none⟩ (.int .i64 0)).setCell ⟨w.heap.size, 1, none⟩ (.int .i64 0)) (w.heap.size) 24 #[.int .i64 0, .int .i64 0, .int .i64 0] := kr_1.set_ 1 _
      have kc_2 := kc_1.far (p := ⟨w.heap.size, 1, none⟩) (by simp <;> omega) (.int .i64 0)
      have rr_2 := kr_2.rule
      have fr_2 := fun i => kr_2.frozen i
      have rc_2 := kc_2.rule
      have fc_2 := fun i => kc_2.frozen i
      have kr_3 : Blk (((w1.setCell ⟨w.heap.size, 0, none⟩ (.int .i64 0)).setCell ⟨w.heap.size, 1, none⟩ (.int .i64 0)).setCell ⟨w.heap.size, 2, none⟩ (.int .i64 0)) (w.heap.size) 24 #[.int .i64 0, .int .i64 0, .int .i64 0] := kr_2.set_ 2 _
      have kc_3 := kc_2.far (p := ⟨w.heap.size, 2, none⟩) (by simp <;> omega) (.int .i64 0)
      have rr_3 := kr_3.rule
      have fr_3 := fun i => kr_3.frozen i
      have rc_3 := kc_3.rule
      have fc_3 := fun i => kc_3.frozen i
      go_wp2
      refine bodyPost_ret (v := .tuple #[.agg #[.int .i64 0, .int .i64 0, .int .i64 0], .bool false]) (by simp [results, Try.results20, go_sem, rr_3]) rfl ⟨rfl, ?_⟩
      iterate 3 refine Below.setCell ?_ (by simp <;> omega) _
      exact hB
    · have e0 : okV (a + 1) = true := by simp [okV, ea, hq, hv]
      have e1 : kV (a + 1) = a / 20 := by simp [kV, e0, ea]
      have e2 : yV (a + 1) = a % 20 / 5 := by simp [yV, e0, ea]
      have e3 : nV (a + 1) = a % 5 := by simp [nV, e0, ea]
      rw [e0, e1, e2, e3]
      have HV := Lib.hid hv; have HQ := Lib.hid hq; clear hv hq e0 e1 e2 e3
      go_enter Try.func20, Try.ntmps20
      go_wp2_with fail
      refine (implVal7_is _ true HV.out _).mono ?_
      rintro e w1 ⟨rfl, rfl⟩
      go_wp2_with fail
      refine (implCmdOk_is true _ _ _ HQ.out _).mono ?_
      rintro e w1 ⟨rfl, hb⟩
      have kr := ((Blk.new w 24 #[.int .i64 0, .int .i64 0, .int .i64 0]).alloc (.cells #[.int .i64 (a / 20), .int .i64 (a % 20 / 5), .int .i64 (a % 5)] 24)).on hb
      have kc0 := Blk.new (w.alloc (.cells #[.int .i64 0, .int .i64 0, .int .i64 0] 24)) 24 #[.int .i64 (a / 20), .int .i64 (a % 20 / 5), .int .i64 (a % 5)]
      simp only [World.size_alloc] at kc0
      have kc := kc0.on hb
      have hB := on_ (up_ (up_ (Below.refl w.heap.size w) _) _) hb
      clear hb kc0
      have rr_0 := kr.rule
      have fr_0 := fun i => kr.frozen i
      have rc_0 := kc.rule
      have fc_0 := fun i => kc.frozen i
      have kr_1 : Blk (w1.setCell ⟨w.heap.size, 0, none⟩ (.int .i64 (a / 20))) (w.heap.size) 24 #[.int .i64 (a / 20), .int .i64 0, .int .i64 0] := kr.set_ 0 _
      have kc_1 := kc.far (p := ⟨w.heap.size, 0, none⟩) (by simp <;> omega) (.int .i64 (a / 20))
      have rr_1 := kr_1.rule
      have fr_1 := fun i => kr_1.frozen i
      have rc_1 := kc_1.rule
      have fc_1 := fun i => kc_1.frozen i
      have kr_2 : Blk ((w1.setCell ⟨w.heap.size, 0, none⟩ (.int .i64 (a / 20))).setCell ⟨w.heap.size, 1, none⟩ (.int .i64 (a % 20 / 5))) (w.heap.size) 24 #[.int .i64 (a / 20), .int .i64 (a % 20 / 5), .int .i64 0] := kr_1.set_ 1 _
      have kc_2 := kc_1.far (p := ⟨w.heap.size, 1, none⟩) (by simp <;> omega) (.int .i64 (a % 20 / 5))
      have rr_2 := kr_2.rule
      have fr_2 := fun i => kr_2.frozen i
      have rc_2 := kc_2.rule
      have fc_2 := fun i => kc_2.frozen i
      have kr_3 : Blk (((w1.setCell ⟨w.heap.size, 0, none⟩ (.int .i64 (a / 20))).setCell ⟨w.heap.size, 1, none⟩ (.int .i64 (a % 20 / 5))).setCell ⟨w.heap.size, 2, none⟩ (.int .i64 (a % 5))) (w.heap.size) 24 #[.int .i64 (a / 20), .int .i64 (a % 20 / 5), .int .i64 (a % 5)] := kr_2.set_ 2 _
      have kc_3 := kc_2.far (p := ⟨w.heap.size, 2, none⟩) (by simp <;> omega) (.int .i64 (a % 5))
      have rr_3 := kr_3.rule
      have fr_3 := fun i => kr_3.frozen i
      have rc_3 := kc_3.rule
      have fc_3 := fun i => kc_3.frozen i
      go_wp2
      refine bodyPost_ret (v := .tuple #[.agg #[.int .i64 (a / 20), .int .i64 (a % 20 / 5), .int .i64 (a % 5)], .bool true]) (by simp [results, Try.results20, go_sem, rr_3]) rfl ⟨rfl, ?_⟩
      iterate 3 refine Below.setCell ?_ (by simp <;> omega) _
      exact hB

end Go.Proofs.Ytfebeafonifpdaa.V
