/-
  What BoundTo answers, of the model and of the program: contracts. No statement is proved here.
-/
import Derived.Test.YtaegcdbgnjlbdaaSteps
import Derived.Test.YtaegcdbgnjlbdaaImplMsgOk
set_option linter.unusedVariables false
set_option maxRecDepth 100000
namespace Go.Proofs.Ytaegcdbgnjlbdaa.V
open Go.RowKit Go.Proofs.Ytaegcdbgnjlbdaa.B

/-- In a valid message the lock is no lock if its value is 0. -/
theorem lock_zero {q : Bool} {k v x a b : Int} {vs : List (Int × Int)} (hq : msgOkB k v x a b vs = q) : q = true → b = 0 → a = 0 := by
  rintro rfl rfl
  unfold msgOkB lockOkB at hq
  rw [show valOkB 0 = false from by decide] at hq
  by_cases hk : k = 3
  · simp [hk] at hq
    exact hq.2.2
  · simp [hk] at hq
    exact hq.2.1.1.2

set_option maxHeartbeats 800000 in
theorem implBound_is (q : Bool) (k v x a b : Int) (A : Option Addr) (c : Nat) (vs : List (Int × Int)) (hq : msgOkB k v x a b vs = q) (w : World) (hr : Rd w w.heap.size A vs) (hn : vs.length ≤ 1048576) :
    Calls Try.prog 13 #[.agg #[.int .i64 k, .int .i64 v, .int .i64 x, .int .i64 a, .int .i64 b, .slice A vs.length c]] w fun e w' => e = .returned (.tuple #[.agg #[.int .i64 (if q && decide (b ≠ 0) then a else 0), .int .i64 (if q && decide (b ≠ 0) then b else 0)], .bool (q && decide (b ≠ 0))]) ∧ Below w.heap.size w w' := by
  have HA := Lib.hid (lock_zero hq)
  have HQ := Lib.hid hq; clear hq
  cases q
  · simp only [Bool.false_and, Bool.false_eq_true, if_false]
    have hkm := (Blk.new w 27 #[.int .i64 k, .int .i64 v, .int .i64 x, .int .i64 a, .int .i64 b, .slice A vs.length c]).alloc (.cells #[.int .i64 0, .int .i64 0] 24)
    have hkr := Blk.new (w.alloc (.cells #[.int .i64 k, .int .i64 v, .int .i64 x, .int .i64 a, .int .i64 b, .slice A vs.length c] 27)) 24 #[.int .i64 0, .int .i64 0]
    go_enter Try.func13, Try.ntmps13
    go_wp2_with fail
    refine (implMsgOk_is false k v x a b A c vs HQ.out _ ((hr.up _).up _) hn).mono ?_
    rintro e w1 ⟨rfl, hb1⟩
    have hm1 := (hkm.on hb1).rule
    have hr1 := (hkr.on hb1).rule
    have hf1 := fun i => (hkr.on hb1).frozen i
    have hz1 : w.heap.size + 1 < w1.heap.size := by have := (hkr.on hb1).lt; simpa using this
    have hB1 := on_ (up_ (up_ (Below.refl w.heap.size w) _) _) hb1
    simp only [World.size_alloc] at hr1 hf1
    clear hkm hkr hb1 hr
    go_wp2
    refine bodyPost_ret (v := .tuple #[.agg #[.int .i64 0, .int .i64 0], .bool false]) (by simp [results, Try.results13, go_sem, hr1]) rfl ⟨rfl, ?_⟩
    repeat (first | exact hB1 | refine Below.setCell ?_ (by simp <;> omega) _)
  by_cases hb : b = 0
  · subst hb
    obtain rfl : a = 0 := HA.out rfl rfl
    simp only [ne_eq, not_true, decide_false, Bool.and_false, Bool.false_eq_true, if_false]
    have hkm := (Blk.new w 27 #[.int .i64 k, .int .i64 v, .int .i64 x, .int .i64 0, .int .i64 0, .slice A vs.length c]).alloc (.cells #[.int .i64 0, .int .i64 0] 24)
    have hkr := Blk.new (w.alloc (.cells #[.int .i64 k, .int .i64 v, .int .i64 x, .int .i64 0, .int .i64 0, .slice A vs.length c] 27)) 24 #[.int .i64 0, .int .i64 0]
    go_enter Try.func13, Try.ntmps13
    go_wp2_with fail
    refine (implMsgOk_is true k v x 0 0 A c vs HQ.out _ ((hr.up _).up _) hn).mono ?_
    rintro e w1 ⟨rfl, hb1⟩
    have hm1 := (hkm.on hb1).rule
    have hr1 := (hkr.on hb1).rule
    have hf1 := fun i => (hkr.on hb1).frozen i
    have hz1 : w.heap.size + 1 < w1.heap.size := by have := (hkr.on hb1).lt; simpa using this
    have hB1 := on_ (up_ (up_ (Below.refl w.heap.size w) _) _) hb1
    simp only [World.size_alloc] at hr1 hf1
    clear hkm hkr hb1 hr
    go_wp2
    refine bodyPost_ret (v := .tuple #[.agg #[.int .i64 0, .int .i64 0], .bool false]) (by simp [results, Try.results13, go_sem, hr1]) rfl ⟨rfl, ?_⟩
    repeat (first | exact hB1 | refine Below.setCell ?_ (by simp <;> omega) _)
  · have hd : (true && decide (b ≠ 0)) = true := by simp [hb]
    rw [hd]
    simp only [if_true]
    by_cases ha : a = 0
    · subst ha
      have hkm := (Blk.new w 27 #[.int .i64 k, .int .i64 v, .int .i64 x, .int .i64 0, .int .i64 b, .slice A vs.length c]).alloc (.cells #[.int .i64 0, .int .i64 0] 24)
      have hkr := Blk.new (w.alloc (.cells #[.int .i64 k, .int .i64 v, .int .i64 x, .int .i64 0, .int .i64 b, .slice A vs.length c] 27)) 24 #[.int .i64 0, .int .i64 0]
      go_enter Try.func13, Try.ntmps13
      go_wp2_with fail
      refine (implMsgOk_is true k v x 0 b A c vs HQ.out _ ((hr.up _).up _) hn).mono ?_
      rintro e w1 ⟨rfl, hb1⟩
      have hm1 := (hkm.on hb1).rule
      have hr1 := (hkr.on hb1).rule
      have hf1 := fun i => (hkr.on hb1).frozen i
      have hz1 : w.heap.size + 1 < w1.heap.size := by have := (hkr.on hb1).lt; simpa using this
      have hB1 := on_ (up_ (up_ (Below.refl w.heap.size w) _) _) hb1
      simp only [World.size_alloc] at hr1 hf1
      clear hkm hkr hb1 hr
      go_wp2
      refine bodyPost_ret (v := .tuple #[.agg #[.int .i64 0, .int .i64 b], .bool true]) (by simp [results, Try.results13, go_sem, hr1]) rfl ⟨rfl, ?_⟩
      repeat (first | exact hB1 | refine Below.setCell ?_ (by simp <;> omega) _)
    · have HA' := Lib.hid ha
      have hkm := (Blk.new w 27 #[.int .i64 k, .int .i64 v, .int .i64 x, .int .i64 a, .int .i64 b, .slice A vs.length c]).alloc (.cells #[.int .i64 0, .int .i64 0] 24)
      have hkr := Blk.new (w.alloc (.cells #[.int .i64 k, .int .i64 v, .int .i64 x, .int .i64 a, .int .i64 b, .slice A vs.length c] 27)) 24 #[.int .i64 0, .int .i64 0]
      go_enter Try.func13, Try.ntmps13
      go_wp2_with fail
      refine (implMsgOk_is true k v x a b A c vs HQ.out _ ((hr.up _).up _) hn).mono ?_
      rintro e w1 ⟨rfl, hb1⟩
      have hm1 := (hkm.on hb1).rule
      have hr1 := (hkr.on hb1).rule
      have hf1 := fun i => (hkr.on hb1).frozen i
      have hz1 : w.heap.size + 1 < w1.heap.size := by have := (hkr.on hb1).lt; simpa using this
      have hB1 := on_ (up_ (up_ (Below.refl w.heap.size w) _) _) hb1
      simp only [World.size_alloc] at hr1 hf1
      clear hkm hkr hb1 hr
      go_wp2
      refine bodyPost_ret (v := .tuple #[.agg #[.int .i64 a, .int .i64 b], .bool true]) (by simp [results, Try.results13, go_sem, hr1]) rfl ⟨rfl, ?_⟩
      repeat (first | exact hB1 | refine Below.setCell ?_ (by simp <;> omega) _)


theorem implBound_as (q rq : Bool) (ra rb : Int) (k v x a b : Int) (A : Option Addr) (c : Nat) (vs : List (Int × Int)) (hq : msgOkB k v x a b vs = q) (hres : (if q && decide (b ≠ 0) then a else 0) = ra ∧ (if q && decide (b ≠ 0) then b else 0) = rb ∧ (q && decide (b ≠ 0)) = rq) (w : World) (hr : Rd w w.heap.size A vs) (hn : vs.length ≤ 1048576) :
    Calls Try.prog 13 #[.agg #[.int .i64 k, .int .i64 v, .int .i64 x, .int .i64 a, .int .i64 b, .slice A vs.length c]] w fun e w' => e = .returned (.tuple #[.agg #[.int .i64 ra, .int .i64 rb], .bool rq]) ∧ Below w.heap.size w w' := by
  have h := implBound_is q k v x a b A c vs hq w hr hn
  rw [hres.1, hres.2.1, hres.2.2] at h
  exact h
end Go.Proofs.Ytaegcdbgnjlbdaa.V
