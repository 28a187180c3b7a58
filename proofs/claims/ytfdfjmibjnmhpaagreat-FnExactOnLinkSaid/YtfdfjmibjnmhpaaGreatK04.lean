/-
  What MsgOk answers, of the model and of the program: contracts. What the program's MsgOk and messageOf answer: contracts. What the program's messageOf and MsgOk answer: contracts. What the program's messageOf and MsgOk answer: contracts. What the program's MsgOk answers: its contract. Quorum sizes, of the model and of the program: contracts. What the functions on reports answer, as plain functions on lists. Which lists of reports are valid, for the model and for the program: contracts. No statement is proved here.
-/
import Derived.Test.YtfdfjmibjnmhpaaGreatK01
import Derived.Test.YtfdfjmibjnmhpaaGreatK03
import Derived.Deep.RegionWith
import Derived.Test.YtfdfjmibjnmhpaaGreatK02
set_option linter.unusedVariables false
set_option maxRecDepth 100000
namespace Go.Proofs.YtfdfjmibjnmhpaaGreat.V
open Go.RowKit Go.Proofs.YtfdfjmibjnmhpaaGreat.B

def lockOkB (a b below : Int) : Bool := decide (b = 0 ∧ a = 0) || (valOkB b && decide (0 ≤ a ∧ a < below))
def msgOkB (k v x a b : Int) (vs : List (Int × Int)) : Bool :=
  decide (0 ≤ k ∧ k ≤ 4) && viewOkB v && (if k = 3 then decide (x = 0 ∧ 1 ≤ v) && votesOkB vs v && lockOkB a b v else valOkB x && decide (a = 0 ∧ b = 0) && decide (vs.length = 0) && (decide (k ≠ 4) || decide (v = 0)))

theorem specVotesOk_is (q : Bool) (A : Option Addr) (c : Nat) (vs : List (Int × Int)) (below : Int) (hq : votesOkB vs below = q) (w : World) (hr : Rd w w.heap.size A vs) (hn : vs.length ≤ 1048576) :
    Calls Tryz.prog 72 #[.slice A vs.length c, .int .i64 below] w fun e w' => e = .returned (.bool q) ∧ Below w.heap.size w w' := by
  rw [← hq]; exact specVotesOk_any A c vs below w hr hn

set_option maxHeartbeats 1000000 in
theorem specMsgOk_plain (k v x a b : Int) (A : Option Addr) (c : Nat) (vs : List (Int × Int)) (w : World) (hr : Rd w w.heap.size A vs) (hn : vs.length ≤ 1048576) (hk : k ≠ 3) :
    Calls Tryz.prog 52 #[.agg #[.int .i64 k, .int .i64 v, .int .i64 x, .int .i64 a, .int .i64 b, .slice A vs.length c]] w fun e w' => e = .returned (.bool (msgOkB k v x a b vs)) ∧ Below w.heap.size w w' := by
  obtain ⟨qv, hqv⟩ : ∃ q, viewOkB v = q := ⟨_, rfl⟩
  have HV := Lib.hid hqv; clear hqv
  obtain ⟨qx, hqx⟩ : ∃ q, valOkB x = q := ⟨_, rfl⟩
  have HX := Lib.hid hqx; clear hqx
  have HK := Lib.hid hk
  have hk3 : (k != 3) = true := by rw [bne_iff_ne]; exact hk
  clear hk hr
  cases qv
  · go_enter Tryz.func52, Tryz.ntmps52
    go_wp2_with (go_at_call 70; refine (specView_is v _ HV.out _).mono ?_; rintro e w1 ⟨rfl, rfl⟩)
    all_goals go_ret
    all_goals refine ⟨ret_bool ?_, (Below.refl _ _).alloc (Nat.le_refl _) _⟩
    all_goals simp [msgOkB, HV.out]
  cases qx
  · go_enter Tryz.func52, Tryz.ntmps52
    go_wp2_with (first | (go_at_call 70; refine (specView_is v _ HV.out _).mono ?_; rintro e w1 ⟨rfl, rfl⟩) | (go_at_call 69; refine (specVal_is x _ HX.out _).mono ?_; rintro e w1 ⟨rfl, rfl⟩))
    all_goals go_ret
    all_goals refine ⟨ret_bool ?_, (Below.refl _ _).alloc (Nat.le_refl _) _⟩
    all_goals simp [msgOkB, HV.out, HX.out, HK.out]
    all_goals (intros; omega)
  · go_enter Tryz.func52, Tryz.ntmps52
    go_wp2_with (first | (go_at_call 70; refine (specView_is v _ HV.out _).mono ?_; rintro e w1 ⟨rfl, rfl⟩) | (go_at_call 69; refine (specVal_is x _ HX.out _).mono ?_; rintro e w1 ⟨rfl, rfl⟩))
    all_goals go_ret
    all_goals refine ⟨ret_bool ?_, (Below.refl _ _).alloc (Nat.le_refl _) _⟩
    all_goals simp [msgOkB, HV.out, HX.out, HK.out, *]
    all_goals first | rfl | (intros; omega) | (rw [show valOkB 0 = false from by decide]; simp; omega)

set_option maxHeartbeats 1000000 in
theorem specMsgOk_rep0 (v x a b : Int) (A : Option Addr) (c : Nat) (vs : List (Int × Int)) (w : World) (hr : Rd w w.heap.size A vs) (hn : vs.length ≤ 1048576) (hv : viewOkB v = false) :
    Calls Tryz.prog 52 #[.agg #[.int .i64 3, .int .i64 v, .int .i64 x, .int .i64 a, .int .i64 b, .slice A vs.length c]] w fun e w' => e = .returned (.bool (msgOkB 3 v x a b vs)) ∧ Below w.heap.size w w' := by
  have HV := Lib.hid hv; clear hv hr
  go_enter Tryz.func52, Tryz.ntmps52
  go_wp2_with (go_at_call 70; refine (specView_is v _ HV.out _).mono ?_; rintro e w1 ⟨rfl, rfl⟩)
  all_goals go_ret
  all_goals refine ⟨ret_bool ?_, (Below.refl _ _).alloc (Nat.le_refl _) _⟩
  all_goals simp [msgOkB, HV.out]

set_option maxHeartbeats 1000000 in
theorem specMsgOk_rep1 (v x a b : Int) (A : Option Addr) (c : Nat) (vs : List (Int × Int)) (w : World) (hr : Rd w w.heap.size A vs) (hn : vs.length ≤ 1048576) (hv : viewOkB v = true) (hl : votesOkB vs v = false) :
    Calls Tryz.prog 52 #[.agg #[.int .i64 3, .int .i64 v, .int .i64 x, .int .i64 a, .int .i64 b, .slice A vs.length c]] w fun e w' => e = .returned (.bool (msgOkB 3 v x a b vs)) ∧ Below w.heap.size w w' := by
  have HV := Lib.hid hv; clear hv
  have HL := Lib.hid hl; clear hl
  have hr0 := fun O => (hr.alloc (Nat.le_refl _) O).more (Bd' := (w.alloc O).heap.size) (by simp)
  have HR := Lib.hid hr0; clear hr0 hr
  go_enter Tryz.func52, Tryz.ntmps52
  go_wp2_with (first | (go_at_call 70; refine (specView_is v _ HV.out _).mono ?_; rintro e w1 ⟨rfl, rfl⟩) | (go_at_call 72; refine (specVotesOk_is _ A c vs v HL.out _ (HR.out _) hn).mono ?_; rintro e w1 ⟨rfl, hb1⟩; obtain ⟨hc1, hf1⟩ := bcell hb1; have hz1 : w.heap.size < w1.heap.size := (by have := hb1.size; simp at this; omega); have hB1 : Below w.heap.size w w1 := Below.trans ((Below.refl _ _).alloc (Nat.le_refl _) _) (hb1.mono (by simp)); clear hb1))
  all_goals go_ret
  all_goals refine ⟨ret_bool ?_, by first | exact hB1 | exact (Below.refl _ _).alloc (Nat.le_refl _) _⟩
  all_goals simp [msgOkB, lockOkB, HV.out, HL.out, *]
  all_goals first | rfl | (intros; omega) | (rw [show valOkB 0 = false from by decide]; simp; omega)

set_option maxHeartbeats 1000000 in
theorem specMsgOk_rep2 (v x a b : Int) (A : Option Addr) (c : Nat) (vs : List (Int × Int)) (w : World) (hr : Rd w w.heap.size A vs) (hn : vs.length ≤ 1048576) (hv : viewOkB v = true) (hl : votesOkB vs v = true) (hb : valOkB b = false) :
    Calls Tryz.prog 52 #[.agg #[.int .i64 3, .int .i64 v, .int .i64 x, .int .i64 a, .int .i64 b, .slice A vs.length c]] w fun e w' => e = .returned (.bool (msgOkB 3 v x a b vs)) ∧ Below w.heap.size w w' := by
  have HV := Lib.hid hv; clear hv
  have HL := Lib.hid hl; clear hl
  have HB := Lib.hid hb; clear hb
  have hr0 := fun O => (hr.alloc (Nat.le_refl _) O).more (Bd' := (w.alloc O).heap.size) (by simp)
  have HR := Lib.hid hr0; clear hr0 hr
  go_enter Tryz.func52, Tryz.ntmps52
  go_wp2_with (first | (go_at_call 70; refine (specView_is v _ HV.out _).mono ?_; rintro e w1 ⟨rfl, rfl⟩) | (go_at_call 72; refine (specVotesOk_is _ A c vs v HL.out _ (HR.out _) hn).mono ?_; rintro e w1 ⟨rfl, hb1⟩; obtain ⟨hc1, hf1⟩ := bcell hb1; have hz1 : w.heap.size < w1.heap.size := (by have := hb1.size; simp at this; omega); have hB1 : Below w.heap.size w w1 := Below.trans ((Below.refl _ _).alloc (Nat.le_refl _) _) (hb1.mono (by simp)); clear hb1) | (go_at_call_of 69 (Value.int .i64 b); refine (specVal_is b _ HB.out _).mono ?_; rintro e w2 ⟨rfl, rfl⟩) | (go_at_call_of 69 (Value.int .i64 0); refine (specVal_is 0 false (by decide) _).mono ?_; rintro e w2 ⟨rfl, rfl⟩))
  all_goals go_ret
  all_goals refine ⟨ret_bool ?_, by first | exact hB1 | exact (Below.refl _ _).alloc (Nat.le_refl _) _⟩
  all_goals simp [msgOkB, lockOkB, HV.out, HL.out, HB.out, *]
  all_goals first | rfl | (intros; omega) | (rw [show valOkB 0 = false from by decide]; simp; omega)

set_option maxHeartbeats 1000000 in
theorem specMsgOk_rep3 (v x a b : Int) (A : Option Addr) (c : Nat) (vs : List (Int × Int)) (w : World) (hr : Rd w w.heap.size A vs) (hn : vs.length ≤ 1048576) (hv : viewOkB v = true) (hl : votesOkB vs v = true) (hb : valOkB b = true) :
    Calls Tryz.prog 52 #[.agg #[.int .i64 3, .int .i64 v, .int .i64 x, .int .i64 a, .int .i64 b, .slice A vs.length c]] w fun e w' => e = .returned (.bool (msgOkB 3 v x a b vs)) ∧ Below w.heap.size w w' := by
  have HV := Lib.hid hv; clear hv
  have HL := Lib.hid hl; clear hl
  have HB := Lib.hid hb; clear hb
  have hr0 := fun O => (hr.alloc (Nat.le_refl _) O).more (Bd' := (w.alloc O).heap.size) (by simp)
  have HR := Lib.hid hr0; clear hr0 hr
  go_enter Tryz.func52, Tryz.ntmps52
  go_wp2_with (first | (go_at_call 70; refine (specView_is v _ HV.out _).mono ?_; rintro e w1 ⟨rfl, rfl⟩) | (go_at_call 72; refine (specVotesOk_is _ A c vs v HL.out _ (HR.out _) hn).mono ?_; rintro e w1 ⟨rfl, hb1⟩; obtain ⟨hc1, hf1⟩ := bcell hb1; have hz1 : w.heap.size < w1.heap.size := (by have := hb1.size; simp at this; omega); have hB1 : Below w.heap.size w w1 := Below.trans ((Below.refl _ _).alloc (Nat.le_refl _) _) (hb1.mono (by simp)); clear hb1) | (go_at_call_of 69 (Value.int .i64 b); refine (specVal_is b _ HB.out _).mono ?_; rintro e w2 ⟨rfl, rfl⟩) | (go_at_call_of 69 (Value.int .i64 0); refine (specVal_is 0 false (by decide) _).mono ?_; rintro e w2 ⟨rfl, rfl⟩))
  all_goals go_ret
  all_goals refine ⟨ret_bool ?_, by first | exact hB1 | exact (Below.refl _ _).alloc (Nat.le_refl _) _⟩
  all_goals simp [msgOkB, lockOkB, HV.out, HL.out, HB.out, *]
  all_goals first | rfl | (intros; omega) | (rw [show valOkB 0 = false from by decide]; simp; omega)

theorem specMsgOk_any (k v x a b : Int) (A : Option Addr) (c : Nat) (vs : List (Int × Int)) (w : World) (hr : Rd w w.heap.size A vs) (hn : vs.length ≤ 1048576) :
    Calls Tryz.prog 52 #[.agg #[.int .i64 k, .int .i64 v, .int .i64 x, .int .i64 a, .int .i64 b, .slice A vs.length c]] w fun e w' => e = .returned (.bool (msgOkB k v x a b vs)) ∧ Below w.heap.size w w' := by
  by_cases hk : k = 3
  · subst hk
    rcases hv : viewOkB v with _ | _
    · exact specMsgOk_rep0 v x a b A c vs w hr hn hv
    rcases hl : votesOkB vs v with _ | _
    · exact specMsgOk_rep1 v x a b A c vs w hr hn hv hl
    rcases hb : valOkB b with _ | _
    · exact specMsgOk_rep2 v x a b A c vs w hr hn hv hl hb
    · exact specMsgOk_rep3 v x a b A c vs w hr hn hv hl hb
  · exact specMsgOk_plain k v x a b A c vs w hr hn hk
theorem specMsgOk_is (q : Bool) (k v x a b : Int) (A : Option Addr) (c : Nat) (vs : List (Int × Int)) (hq : msgOkB k v x a b vs = q) (w : World) (hr : Rd w w.heap.size A vs) (hn : vs.length ≤ 1048576) :
    Calls Tryz.prog 52 #[.agg #[.int .i64 k, .int .i64 v, .int .i64 x, .int .i64 a, .int .i64 b, .slice A vs.length c]] w fun e w' => e = .returned (.bool q) ∧ Below w.heap.size w w' := by
  rw [← hq]; exact specMsgOk_any k v x a b A c vs w hr hn

end Go.Proofs.YtfdfjmibjnmhpaaGreat.V

namespace Go.Proofs.YtfdfjmibjnmhpaaGreat.V
open Go.RowKit Go.Proofs.YtfdfjmibjnmhpaaGreat.B

theorem castOk_is (q : Bool) (k v x : Int) (hq : (viewOkB v && valOkB x) = q) (w : World) :
    Calls Tryz.prog 117 #[.agg #[.int .i64 k, .int .i64 v, .int .i64 x]] w fun e w' => e = .returned (.bool q) ∧ Below w.heap.size w w' := by
  subst hq
  obtain ⟨qv, hv⟩ : ∃ q, viewOkB v = q := ⟨_, rfl⟩
  obtain ⟨qx, hx⟩ : ∃ q, valOkB x = q := ⟨_, rfl⟩
  have HV := Lib.hid hv
  have HX := Lib.hid hx
  rw [hv, hx]; clear hv hx
  cases qv <;> cases qx
  all_goals
    go_enter Tryz.func117, Tryz.ntmps117
    go_wp2_with (first | (go_at_call 96; refine (implView_is v _ HV.out _).mono ?_; rintro e w1 ⟨rfl, rfl⟩) | (go_at_call 95; refine (implVal_is x _ HX.out _).mono ?_; rintro e w1 ⟨rfl, rfl⟩))
    go_ret
    exact ⟨rfl, (Below.refl _ _).alloc (Nat.le_refl _) _⟩

theorem doneOk_is (q : Bool) (x : Int) (hq : valOkB x = q) (w : World) :
    Calls Tryz.prog 119 #[.agg #[.int .i64 x]] w fun e w' => e = .returned (.bool q) ∧ Below w.heap.size w w' := by
  have HX := Lib.hid hq; clear hq
  go_enter Tryz.func119, Tryz.ntmps119
  go_wp2_with (go_at_call 95; refine (implVal_is x _ HX.out _).mono ?_; rintro e w1 ⟨rfl, rfl⟩)
  go_ret
  exact ⟨rfl, (Below.refl _ _).alloc (Nat.le_refl _) _⟩

theorem lockOk_impl (a b v : Int) : viewOkB v = true → lockOkB a b v = (decide (a = 0 ∧ b = 0) || voteOkB a b v) := by
  intro h
  unfold viewOkB at h
  have h := of_decide_eq_true h
  unfold lockOkB voteOkB viewOkB
  rw [Bool.eq_iff_iff]
  simp only [Bool.or_eq_true, Bool.and_eq_true, decide_eq_true_eq]
  constructor
  · rintro (h1 | ⟨h1, h2⟩)
    · exact .inl ⟨h1.2, h1.1⟩
    · exact .inr ⟨⟨⟨by omega, by omega⟩, by omega⟩, h1⟩
  · rintro (h1 | ⟨⟨h1, h2⟩, h3⟩)
    · exact .inl ⟨h1.2, h1.1⟩
    · exact .inr ⟨h3, by omega, h2⟩

theorem lockOk_is (q : Bool) (a b v : Int) (hq : (decide (a = 0 ∧ b = 0) || voteOkB a b v) = q) (w : World) :
    Calls Tryz.prog 99 #[.agg #[.int .i64 a, .int .i64 b], .int .i64 v] w fun e w' => e = .returned (.bool q) ∧ Below w.heap.size w w' := by
  subst hq
  obtain ⟨qq, hv⟩ : ∃ q, voteOkB a b v = q := ⟨_, rfl⟩
  have HV := Lib.hid hv
  rw [hv]; clear hv
  by_cases ha : a = 0
  · subst ha
    by_cases hb : b = 0
    · subst hb
      go_enter Tryz.func99, Tryz.ntmps99
      go_wp2_with fail
      go_ret
      exact ⟨rfl, ((Below.refl _ _).alloc (Nat.le_refl _) _)⟩
    · have HB := Lib.hid hb
      go_enter Tryz.func99, Tryz.ntmps99
      go_wp2_with (go_at_call 111; refine (voteOk_is 0 b v _ HV.out _).mono ?_; rintro e w1 ⟨rfl, hb1⟩)
      go_ret
      exact ⟨ret_bool (by simp [HB.out]), Below.trans ((Below.refl _ _).alloc (Nat.le_refl _) _) (hb1.mono (by simp))⟩
  · have HA := Lib.hid ha
    go_enter Tryz.func99, Tryz.ntmps99
    go_wp2_with (go_at_call 111; refine (voteOk_is a b v _ HV.out _).mono ?_; rintro e w1 ⟨rfl, hb1⟩)
    go_ret
    exact ⟨ret_bool (by simp [HA.out]), Below.trans ((Below.refl _ _).alloc (Nat.le_refl _) _) (hb1.mono (by simp))⟩

theorem implVotesOk_is (q : Bool) (A : Option Addr) (c : Nat) (vs : List (Int × Int)) (below : Int) (hq : votesOkB vs below = q) (w : World) (hr : Rd w w.heap.size A vs) (hn : vs.length ≤ 1048576) :
    Calls Tryz.prog 98 #[.slice A vs.length c, .int .i64 below] w fun e w' => e = .returned (.bool q) ∧ Below w.heap.size w w' := by
  rw [← hq]; exact implVotesOk_any A c vs below w hr hn

def repOkB (v a b : Int) (vs : List (Int × Int)) : Bool := viewOkB v && decide (v ≠ 0) && lockOkB a b v && votesOkB vs v

set_option maxHeartbeats 800000 in
theorem repOk_is (q : Bool) (v a b : Int) (A : Option Addr) (c : Nat) (vs : List (Int × Int)) (hq : repOkB v a b vs = q) (w : World) (hr : Rd w w.heap.size A vs) (hn : vs.length ≤ 1048576) :
    Calls Tryz.prog 118 #[.agg #[.int .i64 v, .int .i64 a, .int .i64 b, .slice A vs.length c]] w fun e w' => e = .returned (.bool q) ∧ Below w.heap.size w w' := by
  subst hq
  have hl0 := lockOk_impl a b v
  unfold repOkB
  obtain ⟨qv, hv⟩ : ∃ q, viewOkB v = q := ⟨_, rfl⟩
  obtain ⟨qk, hk⟩ : ∃ q, lockOkB a b v = q := ⟨_, rfl⟩
  obtain ⟨ql, hl⟩ : ∃ q, votesOkB vs v = q := ⟨_, rfl⟩
  have HV := Lib.hid hv
  have HL := Lib.hid hl
  have hr0 := fun O => (hr.alloc (Nat.le_refl _) O).more (Bd' := (w.alloc O).heap.size) (by simp)
  have HR := Lib.hid hr0; clear hr0 hr
  rw [hv, hk, hl]
  cases qv
  · clear hv hk hl hl0
    go_enter Tryz.func118, Tryz.ntmps118
    go_wp2_with (go_at_call 96; refine (implView_is v _ HV.out _).mono ?_; rintro e w1 ⟨rfl, rfl⟩)
    go_ret
    exact ⟨rfl, ((Below.refl _ _).alloc (Nat.le_refl _) _)⟩
  have hk := (hl0 hv).symm.trans hk
  have HK := Lib.hid hk
  clear hv hk hl hl0
  by_cases h0 : v = 0
  · have h0' : (v != 0) = false := by rw [h0]; rfl
    have H0 := Lib.hid h0; clear h0
    go_enter Tryz.func118, Tryz.ntmps118
    go_wp2_with (go_at_call 96; refine (implView_is v _ HV.out _).mono ?_; rintro e w1 ⟨rfl, rfl⟩)
    go_ret
    exact ⟨ret_bool (by simp [H0.out]), ((Below.refl _ _).alloc (Nat.le_refl _) _)⟩
  have h0' : (v != 0) = true := by rw [bne_iff_ne]; exact h0
  have H0 := Lib.hid h0; clear h0
  cases qk <;> cases ql
  all_goals
    go_enter Tryz.func118, Tryz.ntmps118
    go_wp2_with (first | (go_at_call 96; refine (implView_is v _ HV.out _).mono ?_; rintro e w1 ⟨rfl, rfl⟩) | (go_at_call 99; refine (lockOk_is _ a b v HK.out _).mono ?_; rintro e w1 ⟨rfl, hb1⟩; obtain ⟨hc1, hf1⟩ := bcell hb1; have hz1 : w.heap.size < w1.heap.size := (by have := hb1.size; simp at this; omega); have hB1 : Below w.heap.size w w1 := Below.trans ((Below.refl _ _).alloc (Nat.le_refl _) _) (hb1.mono (by simp)); have hr1 := (((HR.out _).below hb1).more hb1.size); have HR1 := Lib.hid hr1; clear hr1 hb1) | (go_at_call 98; refine (implVotesOk_is _ A c vs v HL.out _ HR1.out hn).mono ?_; rintro e w2 ⟨rfl, hb2⟩; have hB2 := hB1.trans (hb2.mono hB1.size)))
    go_ret
    exact ⟨ret_bool (by simp [H0.out]), by first | exact hB2 | exact hB1⟩
end Go.Proofs.YtfdfjmibjnmhpaaGreat.V

namespace Go.Proofs.YtfdfjmibjnmhpaaGreat.V
open Go.RowKit Go.Proofs.YtfdfjmibjnmhpaaGreat.B

theorem lat_cell : ∀ (W0 : World) (x : Lat W0) (g i : Nat), g < W0.heap.size → x.w.cell? ⟨g, i, none⟩ = W0.cell? ⟨g, i, none⟩ := fun _ x g i h => x.below.cell (p := ⟨g, i, none⟩) h
theorem below2 (w : World) (o o' : Obj) : Below w.heap.size w ((w.alloc o).alloc o') := ((Below.refl _ _).alloc (Nat.le_refl _) o).alloc (by simp) o'

set_option maxHeartbeats 1600000 in
theorem messageOf_cast (q p : Bool) (k v x a b : Int) (A : Option Addr) (c n : Nat) (hk : k = 0 ∨ k = 1 ∨ k = 2) (hp : decide (a = 0 ∧ b = 0 ∧ n = 0) = p) (hq : (viewOkB v && valOkB x) = q) (w : World) :
    Calls Tryz.prog 103 #[.agg #[.int .i64 k, .int .i64 v, .int .i64 x, .int .i64 a, .int .i64 b, .slice A n c]] w fun e w' =>
      e = .returned (.tuple #[.iface 154 (.agg #[.int .i64 k, .int .i64 v, .int .i64 x]), .bool (p && q)]) ∧ Below w.heap.size w w' := by
  subst hp
  have LC := lat_cell
  have HQ := Lib.hid hq; clear hq
  by_cases ha : a = 0
  · subst ha
    by_cases hb : b = 0
    · subst hb
      by_cases hn : n = 0
      · subst hn
        rcases hk with rfl | rfl | rfl
        all_goals
          go_enter Tryz.func103, Tryz.ntmps103
          go_wp2_with fail
          refine wp_region_lat (by kernel_rfl) (by kernel_rfl) ?_
          repeat (go_big_quiet_step ((go_at_call 117; exact lat_call _ (castOk_is _ _ _ _ HQ.out _))))
          refine wpQuiet_nil ?_
          rintro _ ⟨⟨w3, hb3⟩, rfl⟩
          go_wp2
          go_ret2
          exact ⟨by simp, Below.trans (below2 _ _ _) (hb3.mono (by simp; omega))⟩
      · have hn0 : ((n : Int) == 0) = false := by rw [beq_eq_false_iff_ne]; omega
        have HN := Lib.hid hn; clear hn
        rcases hk with rfl | rfl | rfl
        all_goals
          go_enter Tryz.func103, Tryz.ntmps103
          go_wp2_with fail
          refine wp_region_lat (by kernel_rfl) (by kernel_rfl) ?_
          repeat (go_big_quiet_step (fail))
          refine wpQuiet_nil ?_
          rintro _ ⟨⟨w3, hb3⟩, rfl⟩
          go_wp2
          go_ret2
          exact ⟨by simp [HN.out], Below.trans (below2 _ _ _) (hb3.mono (by simp; omega))⟩
    · have HB := Lib.hid hb
      rcases hk with rfl | rfl | rfl
      all_goals
        go_enter Tryz.func103, Tryz.ntmps103
        go_wp2_with fail
        refine wp_region_lat (by kernel_rfl) (by kernel_rfl) ?_
        repeat (go_big_quiet_step (fail))
        refine wpQuiet_nil ?_
        rintro _ ⟨⟨w3, hb3⟩, rfl⟩
        go_wp2
        go_ret2
        exact ⟨by simp [HB.out], Below.trans (below2 _ _ _) (hb3.mono (by simp; omega))⟩
  · have HA := Lib.hid ha
    rcases hk with rfl | rfl | rfl
    all_goals
      go_enter Tryz.func103, Tryz.ntmps103
      go_wp2_with fail
      refine wp_region_lat (by kernel_rfl) (by kernel_rfl) ?_
      repeat (go_big_quiet_step (fail))
      refine wpQuiet_nil ?_
      rintro _ ⟨⟨w3, hb3⟩, rfl⟩
      go_wp2
      go_ret2
      exact ⟨by simp [HA.out], Below.trans (below2 _ _ _) (hb3.mono (by simp; omega))⟩

end Go.Proofs.YtfdfjmibjnmhpaaGreat.V

namespace Go.Proofs.YtfdfjmibjnmhpaaGreat.V
open Go.RowKit Go.Proofs.YtfdfjmibjnmhpaaGreat.B

set_option maxHeartbeats 1600000 in
theorem messageOf_done (q p : Bool) (v x a b : Int) (A : Option Addr) (c n : Nat) (hp : decide (a = 0 ∧ b = 0 ∧ n = 0 ∧ v = 0) = p) (hq : valOkB x = q) (w : World) :
    Calls Tryz.prog 103 #[.agg #[.int .i64 4, .int .i64 v, .int .i64 x, .int .i64 a, .int .i64 b, .slice A n c]] w fun e w' =>
      e = .returned (.tuple #[.iface 159 (.agg #[.int .i64 x]), .bool (p && q)]) ∧ Below w.heap.size w w' := by
  subst hp
  have LC := lat_cell
  have HQ := Lib.hid hq; clear hq
  by_cases ha : a = 0
  · subst ha
    by_cases hb : b = 0
    · subst hb
      by_cases hn : n = 0
      · subst hn
        by_cases hv : v = 0
        · subst hv
          go_enter Tryz.func103, Tryz.ntmps103
          go_wp2_with fail
          refine wp_region_lat (by kernel_rfl) (by kernel_rfl) ?_
          repeat (go_big_quiet_step ((go_at_call 119; exact lat_call _ (doneOk_is _ _ HQ.out _))))
          refine wpQuiet_nil ?_
          rintro _ ⟨⟨w3, hb3⟩, rfl⟩
          go_wp2
          go_ret2
          exact ⟨by simp, Below.trans (below2 _ _ _) (hb3.mono (by simp; omega))⟩
        · have hv0 : (v == 0) = false := by rw [beq_eq_false_iff_ne]; exact hv
          have HV := Lib.hid hv; clear hv
          go_enter Tryz.func103, Tryz.ntmps103
          go_wp2_with fail
          refine wp_region_lat (by kernel_rfl) (by kernel_rfl) ?_
          repeat (go_big_quiet_step (fail))
          refine wpQuiet_nil ?_
          rintro _ ⟨⟨w3, hb3⟩, rfl⟩
          go_wp2
          go_ret2
          exact ⟨by simp [HV.out], Below.trans (below2 _ _ _) (hb3.mono (by simp; omega))⟩
      · have hn0 : ((n : Int) == 0) = false := by rw [beq_eq_false_iff_ne]; omega
        have HN := Lib.hid hn; clear hn
        go_enter Tryz.func103, Tryz.ntmps103
        go_wp2_with fail
        refine wp_region_lat (by kernel_rfl) (by kernel_rfl) ?_
        repeat (go_big_quiet_step (fail))
        refine wpQuiet_nil ?_
        rintro _ ⟨⟨w3, hb3⟩, rfl⟩
        go_wp2
        go_ret2
        exact ⟨by simp [HN.out], Below.trans (below2 _ _ _) (hb3.mono (by simp; omega))⟩
    · have HB := Lib.hid hb
      go_enter Tryz.func103, Tryz.ntmps103
      go_wp2_with fail
      refine wp_region_lat (by kernel_rfl) (by kernel_rfl) ?_
      repeat (go_big_quiet_step (fail))
      refine wpQuiet_nil ?_
      rintro _ ⟨⟨w3, hb3⟩, rfl⟩
      go_wp2
      go_ret2
      exact ⟨by simp [HB.out], Below.trans (below2 _ _ _) (hb3.mono (by simp; omega))⟩
  · have HA := Lib.hid ha
    go_enter Tryz.func103, Tryz.ntmps103
    go_wp2_with fail
    refine wp_region_lat (by kernel_rfl) (by kernel_rfl) ?_
    repeat (go_big_quiet_step (fail))
    refine wpQuiet_nil ?_
    rintro _ ⟨⟨w3, hb3⟩, rfl⟩
    go_wp2
    go_ret2
    exact ⟨by simp [HA.out], Below.trans (below2 _ _ _) (hb3.mono (by simp; omega))⟩

set_option maxHeartbeats 1600000 in
theorem messageOf_rep (q p : Bool) (v x a b : Int) (A : Option Addr) (c : Nat) (vs : List (Int × Int)) (hp : decide (x = 0) = p) (hq : repOkB v a b vs = q) (w : World) (hr : Rd w w.heap.size A vs) (hn : vs.length ≤ 1048576) :
    Calls Tryz.prog 103 #[.agg #[.int .i64 3, .int .i64 v, .int .i64 x, .int .i64 a, .int .i64 b, .slice A vs.length c]] w fun e w' =>
      e = .returned (.tuple #[.iface 157 (.agg #[.int .i64 v, .int .i64 a, .int .i64 b, .slice A vs.length c]), .bool (p && q)]) ∧ Below w.heap.size w w' := by
  subst hp
  have LC := lat_cell
  have HQ := Lib.hid hq; clear hq
  have hR : ∀ O1 O2 (x : Lat ((w.alloc O1).alloc O2)), Rd x.w x.w.heap.size A vs := fun O1 O2 x => by
    have h := (below2 w O1 O2).trans (x.below.mono (by simp; omega))
    exact (hr.below h).more h.size
  have HR := Lib.hid hR; clear hR hr
  obtain ⟨n, hvn⟩ : ∃ n, vs.length = n := ⟨_, rfl⟩
  by_cases hx : x = 0
  · subst hx
    by_cases ha : a = 0
    · subst ha
      by_cases hb : b = 0
      · subst hb
        clear hvn
        go_enter Tryz.func103, Tryz.ntmps103
        go_wp2_with fail
        refine wp_region_lat (by kernel_rfl) (by kernel_rfl) ?_
        repeat (go_big_quiet_step ((go_at_call 118; exact lat_call _ (repOk_is _ _ _ _ A c vs HQ.out _ (HR.out _ _ _) hn))))
        refine wpQuiet_nil ?_
        rintro _ ⟨⟨w3, hb3⟩, rfl⟩
        go_wp2
        go_ret2
        exact ⟨by simp, Below.trans (below2 _ _ _) (hb3.mono (by simp; omega))⟩
      · clear hvn
        go_enter Tryz.func103, Tryz.ntmps103
        go_wp2_with fail
        refine wp_region_lat (by kernel_rfl) (by kernel_rfl) ?_
        repeat (go_big_quiet_step ((go_at_call 118; exact lat_call _ (repOk_is _ _ _ _ A c vs HQ.out _ (HR.out _ _ _) hn))))
        refine wpQuiet_nil ?_
        rintro _ ⟨⟨w3, hb3⟩, rfl⟩
        go_wp2
        go_ret2
        exact ⟨by simp, Below.trans (below2 _ _ _) (hb3.mono (by simp; omega))⟩
    · clear hvn
      go_enter Tryz.func103, Tryz.ntmps103
      go_wp2_with fail
      refine wp_region_lat (by kernel_rfl) (by kernel_rfl) ?_
      repeat (go_big_quiet_step ((go_at_call 118; exact lat_call _ (repOk_is _ _ _ _ A c vs HQ.out _ (HR.out _ _ _) hn))))
      refine wpQuiet_nil ?_
      rintro _ ⟨⟨w3, hb3⟩, rfl⟩
      go_wp2
      go_ret2
      exact ⟨by simp, Below.trans (below2 _ _ _) (hb3.mono (by simp; omega))⟩
  · have hx0 : (x == 0) = false := by rw [beq_eq_false_iff_ne]; exact hx
    have HX := Lib.hid hx; clear hx
    by_cases ha : a = 0
    · subst ha
      by_cases hb : b = 0
      · subst hb
        clear hvn
        go_enter Tryz.func103, Tryz.ntmps103
        go_wp2_with fail
        refine wp_region_lat (by kernel_rfl) (by kernel_rfl) ?_
        repeat (go_big_quiet_step (fail))
        refine wpQuiet_nil ?_
        rintro _ ⟨⟨w3, hb3⟩, rfl⟩
        go_wp2
        go_ret2
        exact ⟨by simp [HX.out], Below.trans (below2 _ _ _) (hb3.mono (by simp; omega))⟩
      · clear hvn
        go_enter Tryz.func103, Tryz.ntmps103
        go_wp2_with fail
        refine wp_region_lat (by kernel_rfl) (by kernel_rfl) ?_
        repeat (go_big_quiet_step (fail))
        refine wpQuiet_nil ?_
        rintro _ ⟨⟨w3, hb3⟩, rfl⟩
        go_wp2
        go_ret2
        exact ⟨by simp [HX.out], Below.trans (below2 _ _ _) (hb3.mono (by simp; omega))⟩
    · clear hvn
      go_enter Tryz.func103, Tryz.ntmps103
      go_wp2_with fail
      refine wp_region_lat (by kernel_rfl) (by kernel_rfl) ?_
      repeat (go_big_quiet_step (fail))
      refine wpQuiet_nil ?_
      rintro _ ⟨⟨w3, hb3⟩, rfl⟩
      go_wp2
      go_ret2
      exact ⟨by simp [HX.out], Below.trans (below2 _ _ _) (hb3.mono (by simp; omega))⟩

set_option maxHeartbeats 1600000 in
theorem messageOf_none (k v x a b : Int) (A : Option Addr) (c n : Nat) (hk : k < 0 ∨ 4 < k) (w : World) :
    Calls Tryz.prog 103 #[.agg #[.int .i64 k, .int .i64 v, .int .i64 x, .int .i64 a, .int .i64 b, .slice A n c]] w fun e w' =>
      e = .returned (.tuple #[.nilIface, .bool false]) ∧ Below w.heap.size w w' := by
  have k0 : (k == 0) = false := by rw [beq_eq_false_iff_ne]; omega
  have k1 : (k == 1) = false := by rw [beq_eq_false_iff_ne]; omega
  have k2 : (k == 2) = false := by rw [beq_eq_false_iff_ne]; omega
  have k3 : (k == 3) = false := by rw [beq_eq_false_iff_ne]; omega
  have k4 : (k == 4) = false := by rw [beq_eq_false_iff_ne]; omega
  clear hk
  go_enter Tryz.func103, Tryz.ntmps103
  go_wp2
  all_goals go_ret2
  all_goals exact ⟨rfl, (Below.refl _ _).alloc (Nat.le_refl _) _⟩
end Go.Proofs.YtfdfjmibjnmhpaaGreat.V

namespace Go.Proofs.YtfdfjmibjnmhpaaGreat.V
open Go.RowKit Go.Proofs.YtfdfjmibjnmhpaaGreat.B

theorem ok_cast {k v x a b : Int} {vs : List (Int × Int)} (hk : k = 0 ∨ k = 1 ∨ k = 2) : (decide (a = 0 ∧ b = 0 ∧ vs.length = 0) && (viewOkB v && valOkB x)) = msgOkB k v x a b vs := by
  unfold msgOkB
  rw [if_neg (by omega)]
  generalize vs.length = n
  cases viewOkB v <;> cases valOkB x <;> simp <;> rw [Bool.eq_iff_iff] <;> simp <;> omega
theorem ok_done {v x a b : Int} {vs : List (Int × Int)} : (decide (a = 0 ∧ b = 0 ∧ vs.length = 0 ∧ v = 0) && valOkB x) = msgOkB 4 v x a b vs := by
  unfold msgOkB viewOkB
  rw [if_neg (by omega)]
  generalize vs.length = n
  cases valOkB x <;> simp
  rw [Bool.eq_iff_iff]; simp
  omega
theorem ok_rep {v x a b : Int} {vs : List (Int × Int)} : (decide (x = 0) && repOkB v a b vs) = msgOkB 3 v x a b vs := by
  unfold msgOkB repOkB viewOkB
  rw [if_pos rfl]
  cases lockOkB a b v <;> cases votesOkB vs v <;> simp
  rw [Bool.eq_iff_iff]; simp
  omega
theorem ok_none {k v x a b : Int} {vs : List (Int × Int)} (hk : k < 0 ∨ 4 < k) : false = msgOkB k v x a b vs := by
  unfold msgOkB
  rw [show decide (0 ≤ k ∧ k ≤ 4) = false by simp; omega]
  rfl

/-- The interface value that messageOf makes of a message. -/
def messageV (k v x a b : Int) (s : Value) : Value :=
  if k = 0 ∨ k = 1 ∨ k = 2 then .iface 154 (.agg #[.int .i64 k, .int .i64 v, .int .i64 x])
  else if k = 3 then .iface 157 (.agg #[.int .i64 v, .int .i64 a, .int .i64 b, s])
  else if k = 4 then .iface 159 (.agg #[.int .i64 x]) else .nilIface

theorem messageOf_is (q : Bool) (k v x a b : Int) (A : Option Addr) (c : Nat) (vs : List (Int × Int)) (hq : msgOkB k v x a b vs = q) (w : World) (hr : Rd w w.heap.size A vs) (hn : vs.length ≤ 1048576) :
    Calls Tryz.prog 103 #[.agg #[.int .i64 k, .int .i64 v, .int .i64 x, .int .i64 a, .int .i64 b, .slice A vs.length c]] w fun e w' => e = .returned (.tuple #[messageV k v x a b (.slice A vs.length c), .bool q]) ∧ Below w.heap.size w w' := by
  unfold messageV
  by_cases h0 : k = 0 ∨ k = 1 ∨ k = 2
  · have h := messageOf_cast _ _ k v x a b A c vs.length h0 rfl rfl w
    rw [ok_cast h0, hq] at h
    rwa [if_pos h0]
  rw [if_neg h0]
  by_cases h3 : k = 3
  · subst h3
    have h := messageOf_rep _ _ v x a b A c vs rfl rfl w hr hn
    rw [ok_rep, hq] at h
    rwa [if_pos rfl]
  rw [if_neg h3]
  by_cases h4 : k = 4
  · subst h4
    have h := messageOf_done _ _ v x a b A c vs.length rfl rfl w
    rw [ok_done, hq] at h
    rwa [if_pos rfl]
  · have h5 : k < 0 ∨ 4 < k := by omega
    have h := messageOf_none k v x a b A c vs.length h5 w
    rw [ok_none (v := v) (x := x) (a := a) (b := b) (vs := vs) h5, hq] at h
    rwa [if_neg h4]

theorem implMsgOk_is (q : Bool) (k v x a b : Int) (A : Option Addr) (c : Nat) (vs : List (Int × Int)) (hq : msgOkB k v x a b vs = q) (w : World) (hr : Rd w w.heap.size A vs) (hn : vs.length ≤ 1048576) :
    Calls Tryz.prog 84 #[.agg #[.int .i64 k, .int .i64 v, .int .i64 x, .int .i64 a, .int .i64 b, .slice A vs.length c]] w fun e w' => e = .returned (.bool q) ∧ Below w.heap.size w w' := by
  have hr0 := fun O => (hr.alloc (Nat.le_refl _) O).more (Bd' := (w.alloc O).heap.size) (by simp)
  have HR := Lib.hid hr0; clear hr0 hr
  have HQ := Lib.hid hq; clear hq
  go_enter Tryz.func84, Tryz.ntmps84
  go_wp2_with (go_at_call 103; refine (messageOf_is q k v x a b A c vs HQ.out _ (HR.out _) hn).mono ?_; rintro e w1 ⟨rfl, hb1⟩)
  go_ret
  exact ⟨rfl, Below.trans ((Below.refl _ _).alloc (Nat.le_refl _) _) (hb1.mono (by simp))⟩
theorem implMsgOk_any (k v x a b : Int) (A : Option Addr) (c : Nat) (vs : List (Int × Int)) (w : World) (hr : Rd w w.heap.size A vs) (hn : vs.length ≤ 1048576) :
    Calls Tryz.prog 84 #[.agg #[.int .i64 k, .int .i64 v, .int .i64 x, .int .i64 a, .int .i64 b, .slice A vs.length c]] w fun e w' => e = .returned (.bool (msgOkB k v x a b vs)) ∧ Below w.heap.size w w' :=
  implMsgOk_is _ k v x a b A c vs rfl w hr hn
end Go.Proofs.YtfdfjmibjnmhpaaGreat.V

namespace Go.Proofs.YtfdfjmibjnmhpaaGreat.V
open Go.RowKit Go.Proofs.YtfdfjmibjnmhpaaGreat.B

theorem ret_int {a b : Int} (h : a = b) : Ending.returned (.int .i64 a) = .returned (.int .i64 b) := by rw [h]
def sizeB (n : Int) : Bool := decide (n = 4) || decide (n = 7)
theorem specSize_any (n : Int) (w : World) : Calls Tryz.prog 49 #[.int .i64 n] w fun e w' => e = .returned (.bool (sizeB n)) ∧ w' = w := by
  unfold sizeB
  by_cases h1 : n = 4
  · subst h1
    go_enter Tryz.func49, Tryz.ntmps49
    go_wp2
    go_ret
    exact ⟨rfl, rfl⟩
  · have hf : (n == 4) = false := by simpa using h1
    by_cases h2 : n = 7
    · subst h2
      go_enter Tryz.func49, Tryz.ntmps49
      go_wp2
      go_ret
      exact ⟨rfl, rfl⟩
    · have hf2 : (n == 7) = false := by simpa using h2
      go_enter Tryz.func49, Tryz.ntmps49
      go_wp2
      go_ret
      exact ⟨ret_bool (by simp [h1, h2]), rfl⟩
theorem specSize_is (n : Int) (q : Bool) (h : sizeB n = q) (w : World) : Calls Tryz.prog 49 #[.int .i64 n] w fun e w' => e = .returned (.bool q) ∧ w' = w := by
  rw [← h]; exact specSize_any n w

def faultsR (n : Int) : Int := if sizeB n then n.tdiv 3 else -1
def strongR (n : Int) : Int := if sizeB n then n - n.tdiv 3 else -1
def weakR (n : Int) : Int := if sizeB n then n.tdiv 3 + 1 else -1
theorem size_two {n : Int} (h : sizeB n = true) : n = 4 ∨ n = 7 := by simpa [sizeB] using h

theorem implSize_any (n : Int) (w : World) : Calls Tryz.prog 55 #[.int .i64 n] w fun e w' => e = .returned (.bool (sizeB n)) ∧ w' = w := by
  unfold sizeB
  by_cases h1 : n = 4
  · subst h1
    go_enter Tryz.func55, Tryz.ntmps55
    go_wp2
    go_ret
    exact ⟨rfl, rfl⟩
  · have hf : (n == 4) = false := by simpa using h1
    by_cases h2 : n = 7
    · subst h2
      go_enter Tryz.func55, Tryz.ntmps55
      go_wp2
      go_ret
      exact ⟨rfl, rfl⟩
    · have hf2 : (n == 7) = false := by simpa using h2
      go_enter Tryz.func55, Tryz.ntmps55
      go_wp2
      go_ret
      exact ⟨ret_bool (by simp [h1, h2]), rfl⟩
theorem implSize_is (n : Int) (q : Bool) (h : sizeB n = q) (w : World) : Calls Tryz.prog 55 #[.int .i64 n] w fun e w' => e = .returned (.bool q) ∧ w' = w := by
  rw [← h]; exact implSize_any n w
theorem implFaults_any (n : Int) (w : World) : Calls Tryz.prog 80 #[.int .i64 n] w fun e w' => e = .returned (.int .i64 (faultsR n)) ∧ w' = w := by
  rcases hs : sizeB n with _ | _
  · go_enter Tryz.func80, Tryz.ntmps80
    go_wp2_with (go_at_call 55; refine (implSize_is n false hs _).mono ?_; rintro e w0 ⟨rfl, rfl⟩)
    go_ret
    exact ⟨ret_int (by simp [faultsR, hs] <;> (unfold wrap64; omega)), rfl⟩
  · rcases size_two hs with rfl | rfl
    all_goals
      go_enter Tryz.func80, Tryz.ntmps80
      go_wp2_with (go_at_call 55; refine (implSize_is _ true hs _).mono ?_; rintro e w0 ⟨rfl, rfl⟩)
      go_ret
      exact ⟨ret_int (by simp [faultsR, hs] <;> (unfold wrap64; omega)), rfl⟩
end Go.Proofs.YtfdfjmibjnmhpaaGreat.V

namespace Go.Proofs.YtfdfjmibjnmhpaaGreat.V
open Go.RowKit Go.Proofs.YtfdfjmibjnmhpaaGreat.B

def inB (n f : Int) : Bool := decide (0 ≤ f) && decide (f < n)
def repB (n view : Int) (r : Rp) : Bool := inB n r.f && msgOkB 3 view 0 r.v r.x r.vs
def goodR (n view : Int) (rs : List Rp) (i : Nat) : Bool := repB n view (rs.getD i zR) && (decide (i = 0) || decide ((rs.getD (i - 1) zR).f < (rs.getD i zR).f))
def allR (n view : Int) (rs : List Rp) : Bool := (List.range rs.length).all (goodR n view rs)
def viewR (view : Int) : Bool := decide (1 ≤ view ∧ view ≤ 9)
def repsOkB (n view : Int) (rs : List Rp) : Bool := allR n view rs && (sizeB n && viewR view)
theorem allR_yes {n view : Int} {rs : List Rp} (h : ∀ j, j < rs.length → goodR n view rs j = true) : allR n view rs = true := by
  unfold allR
  rw [List.all_eq_true]
  intro j hj
  exact h j (List.mem_range.1 hj)
theorem allR_no {n view : Int} {rs : List Rp} {k : Nat} (hk : k < rs.length) (h : goodR n view rs k = false) : allR n view rs = false := by
  unfold allR
  rw [List.all_eq_false]
  exact ⟨k, List.mem_range.2 hk, by simp [h]⟩

def hasV (val from_ : Int) (r : Rp) : Bool := r.vs.any fun p => decide (p.2 = val) && decide (from_ ≤ p.1)
def wit (rs : List Rp) (val from_ : Int) : Nat := rs.countP (hasV val from_)
/-- The greatest number below k at which ok holds, or -1. -/
def last (ok : Int → Bool) : Nat → Int
  | 0 => -1
  | k + 1 => if ok k then (k : Int) else last ok k
def groundR (n : Int) (rs : List Rp) (val : Int) (u : Int) : Bool := decide (weakR n ≤ (wit rs val u : Int))
def groundsR (n view : Int) (rs : List Rp) (val : Int) : Int := last (groundR n rs val) view.toNat
def freeL (r : Rp) : Bool := decide (r.x = 0)
def unbR (rs : List Rp) : Nat := rs.countP freeL
def freeR (n : Int) (rs : List Rp) : Bool := decide (strongR n ≤ (unbR rs : Int))
def supL (u val : Int) (r : Rp) : Bool := decide (r.x = 0) || (decide (0 ≤ u) && (decide (r.v < u) || decide (r.x = val)))
def supR (u val : Int) (rs : List Rp) : Nat := rs.countP (supL u val)
def safeR (n view : Int) (rs : List Rp) (val : Int) : Bool := freeR n rs || (decide (0 ≤ groundsR n view rs val) && decide (strongR n ≤ (supR (groundsR n view rs val) val rs : Int)))
/-- The best of the values 1 .. k and its grounds. -/
def best (g : Int → Int) (ok : Int → Bool) : Nat → Int × Int
  | 0 => (0, -1)
  | k + 1 => if (best g ok k).2 < g (k + 1 : Nat) && ok (k + 1 : Nat) then (((k + 1 : Nat) : Int), g (k + 1 : Nat)) else best g ok k
def chooseR (n view : Int) (rs : List Rp) (own : Int) : Int × Bool :=
  if freeR n rs then (own, true) else ((best (groundsR n view rs) (safeR n view rs) 60).1, decide (0 < (best (groundsR n view rs) (safeR n view rs) 60).1))

theorem last_lo (ok : Int → Bool) : ∀ k : Nat, -1 ≤ last ok k ∧ last ok k < k
  | 0 => by simp [last]
  | k + 1 => by
    have := last_lo ok k
    unfold last
    split <;> omega
theorem take_cnt {α : Type} (p : α → Bool) (l : List α) (z : α) (k : Nat) (h : k < l.length) : (l.take (k + 1)).countP p = (l.take k).countP p + (if p (l.getD k z) then 1 else 0) := by
  rw [take_getD l z k h, List.countP_append, List.countP_singleton]
theorem cnt_le {α : Type} (p : α → Bool) (l : List α) (k : Nat) : (l.take k).countP p ≤ k := Nat.le_trans List.countP_le_length (by rw [List.length_take]; omega)
theorem take_any {α : Type} (p : α → Bool) (l : List α) (z : α) (k : Nat) (h : k < l.length) : (l.take (k + 1)).any p = ((l.take k).any p || p (l.getD k z)) := by
  rw [take_getD l z k h, List.any_append]
  simp
end Go.Proofs.YtfdfjmibjnmhpaaGreat.V

namespace Go.Proofs.YtfdfjmibjnmhpaaGreat.V
open Go.RowKit Go.Proofs.YtfdfjmibjnmhpaaGreat.B

theorem l3report_is (q : Bool) (n view f a b : Int) (A : Option Addr) (c : Nat) (vs : List (Int × Int)) (hq : repB n view ⟨f, a, b, vs⟩ = q) (w : World) (hr : Rd w w.heap.size A vs) (hn : vs.length ≤ 1048576) :
    Calls Tryz.prog 92 #[.int .i64 n, .int .i64 view, .agg #[.int .i64 f, .int .i64 a, .int .i64 b, .slice A vs.length c]] w fun e w' => e = .returned (.bool q) ∧ Below w.heap.size w w' := by
  subst hq
  unfold repB inB
  have hr0 := fun O => (hr.alloc (Nat.le_refl _) O).more (Bd' := (w.alloc O).heap.size) (by simp)
  have HR := Lib.hid hr0; clear hr0 hr
  obtain ⟨q, hq⟩ : ∃ q, msgOkB 3 view 0 a b vs = q := ⟨_, rfl⟩
  simp only [hq]
  have HQ := Lib.hid hq; clear hq
  by_cases h1 : 0 ≤ f
  · by_cases h2 : f < n
    · go_enter Tryz.func92, Tryz.ntmps92
      go_wp2_with (go_at_call 52; refine (specMsgOk_is q 3 view 0 a b A c vs HQ.out _ (HR.out _) hn).mono ?_; rintro e w1 ⟨rfl, hb1⟩)
      go_ret
      exact ⟨ret_bool (by simp [h1, h2]), Below.trans ((Below.refl _ _).alloc (Nat.le_refl _) _) (hb1.mono (by simp))⟩
    · go_enter Tryz.func92, Tryz.ntmps92
      go_wp2
      go_ret
      exact ⟨ret_bool (by simp; intros; omega), (Below.refl _ _).alloc (Nat.le_refl _) _⟩
  · go_enter Tryz.func92, Tryz.ntmps92
    go_wp2
    go_ret
    exact ⟨ret_bool (by simp; intros; omega), (Below.refl _ _).alloc (Nat.le_refl _) _⟩

theorem reportOk_is (q : Bool) (n view f a b : Int) (A : Option Addr) (c : Nat) (vs : List (Int × Int)) (hq : repB n view ⟨f, a, b, vs⟩ = q) (w : World) (hr : Rd w w.heap.size A vs) (hn : vs.length ≤ 1048576) :
    Calls Tryz.prog 127 #[.int .i64 n, .int .i64 view, .agg #[.int .i64 f, .int .i64 a, .int .i64 b, .slice A vs.length c]] w fun e w' => e = .returned (.bool q) ∧ Below w.heap.size w w' := by
  subst hq
  unfold repB inB
  have hr0 := fun O => (hr.alloc (Nat.le_refl _) O).more (Bd' := (w.alloc O).heap.size) (by simp)
  have HR := Lib.hid hr0; clear hr0 hr
  obtain ⟨q, hq⟩ : ∃ q, msgOkB 3 view 0 a b vs = q := ⟨_, rfl⟩
  simp only [hq]
  have HQ := Lib.hid hq; clear hq
  by_cases h1 : 0 ≤ f
  · by_cases h2 : f < n
    · go_enter Tryz.func127, Tryz.ntmps127
      go_wp2_with (go_at_call 84; refine (implMsgOk_is q 3 view 0 a b A c vs HQ.out _ (HR.out _) hn).mono ?_; rintro e w1 ⟨rfl, hb1⟩)
      go_ret
      exact ⟨ret_bool (by simp [h1, h2]), Below.trans ((Below.refl _ _).alloc (Nat.le_refl _) _) (hb1.mono (by simp))⟩
    · go_enter Tryz.func127, Tryz.ntmps127
      go_wp2
      go_ret
      exact ⟨ret_bool (by simp; intros; omega), (Below.refl _ _).alloc (Nat.le_refl _) _⟩
  · go_enter Tryz.func127, Tryz.ntmps127
    go_wp2
    go_ret
    exact ⟨ret_bool (by simp; intros; omega), (Below.refl _ _).alloc (Nat.le_refl _) _⟩


set_option maxHeartbeats 1600000 in
theorem specReportsOk_any (n view : Int) (A : Option Addr) (c : Nat) (ps : List Pp) (w : World) (hr : RdR w w.heap.size A ps) (hf : Few ps) :
    Calls Tryz.prog 74 #[.int .i64 n, .int .i64 view, .slice A ps.length c] w fun e w' => e = .returned (.bool (repsOkB n view (rl ps))) ∧ Below w.heap.size w w' := by
  obtain ⟨hn, hv⟩ := hf
  obtain ⟨m, hvn⟩ : ∃ m, ps.length = m := ⟨_, rfl⟩
  rw [hvn] at hn hv ⊢
  have HVL := Lib.hid hv; clear hv
  have HV := Lib.hid hvn; clear hvn
  obtain ⟨z, hz⟩ : ∃ z, repsOkB n view (rl ps) = z := ⟨_, rfl⟩
  rw [hz]
  have HZ := Lib.hid hz; clear hz
  obtain ⟨qs, hqs⟩ : ∃ q, sizeB n = q := ⟨_, rfl⟩
  have HS := Lib.hid hqs; clear hqs
  go_enter Tryz.func74, Tryz.ntmps74
  go_wp2
  go_loopw [7] (fun i wr => ∃ (k : Nat), k ≤ m ∧ i = .int .i64 k ∧ Hid (∀ j, j < k → goodR n view (rl ps) j = true) ∧ Below w.heap.size w wr) (fun i _ => m - (intOf i).toNat)
  case atStart => exact ⟨0, Nat.zero_le _, rfl, fun j hj => absurd hj (by omega), Below.refl _ _⟩
  case round =>
    obtain ⟨k, hk, rfl, hall, hbel⟩ := hrel
    by_cases hlt : k < m
    · obtain ⟨b, off, rfl, hb, hc0, hc1, hc2, hc3, hrv⟩ := RdR.at_ (hr.below hbel) (k := k) (by rw [HV.out]; omega)
      have hpv : 0 < k → wr.cell? ⟨b, off + (k - 1) * 4, none⟩ = some (.int .i64 (ps.getD (k - 1) zP).r.f) := fun h0 => by
        obtain ⟨b', off', he, _, h1, _⟩ := RdR.at_ (hr.below hbel) (k := k - 1) (by rw [HV.out]; omega)
        injection he with he
        injection he with he1 he2
        subst he1 he2
        exact h1
      clear hr
      have hvl := HVL.out k hlt
      have HG : Hid (goodR n view (rl ps) k = (repB n view (ps.getD k zP).r && (decide (k = 0) || decide ((ps.getD (k - 1) zP).r.f < (ps.getD k zP).r.f)))) := by show _ = _; unfold goodR; rw [rl_at, rl_at]
      obtain ⟨⟨⟨uf, uv, ux, us⟩, A', c'⟩, hu⟩ : ∃ v, ps.getD k zP = v := ⟨_, rfl⟩
      obtain ⟨pf, hp⟩ : ∃ v, (ps.getD (k - 1) zP).r.f = v := ⟨_, rfl⟩
      rw [hu] at hc0 hc1 hc2 hc3 hrv hvl HG
      rw [hp] at hpv HG
      simp only at hc0 hc1 hc2 hc3 hrv hvl HG
      clear hu hp
      have HRV := Lib.hid ((fun x : Lat wr => (hrv.below (x.below.mono hbel.size)).more (Nat.le_trans hbel.size x.below.size) : ∀ x : Lat wr, Rd x.w x.w.heap.size A' us)); clear hrv
      have C0 := fun x : Lat wr => x.cell hc0
      have C1 := fun x : Lat wr => x.cell hc1
      have C2 := fun x : Lat wr => x.cell hc2
      have C3 := fun x : Lat wr => x.cell hc3
      rcases hq : repB n view ⟨uf, uv, ux, us⟩ with _ | _
      · have HQ := Lib.hid hq; clear hq hpv
        go_wp2
        refine wp_region_lat (by kernel_rfl) (by kernel_rfl) ?_
        repeat (go_big_quiet_step ((first | (go_at_call 92; exact lat_call _ (l3report_is false _ _ _ _ _ _ _ _ HQ.out _ (HRV.out _) hvl)))))
        refine wpQuiet_nil ?_
        rintro w3 ⟨⟨_, hb3⟩, rfl⟩
        clear C0 C1 C2 C3
        go_wp2
        go_ret
        refine ⟨ret_bool ?_, hbel.trans (hb3.mono hbel.size)⟩
        rw [← HZ.out]
        unfold repsOkB
        rw [allR_no (k := k) (by rw [rl_len, HV.out]; omega) (by rw [HG.out]; simp [HQ.out])]
        rfl
      have HQ := Lib.hid hq; clear hq
      by_cases h4 : 0 < k
      · have hp0 := hpv h4
        clear hpv
        obtain ⟨p, hkp⟩ : ∃ p, k = p + 1 := ⟨k - 1, by omega⟩
        have hE : (k : Int) - 1 = (p : Int) := by omega
        have hW : IntKind.i64.wrap (p : Int) = (p : Int) := IntWalk.i64_in _ (by omega)
        rw [show k - 1 = p by omega] at hp0
        have P0 := fun x : Lat wr => x.cell hp0
        have hw4 : (p : Int) < (m : Int) := by omega
        have hw5 : p < m := by omega
        have HKP := Lib.hid hkp; clear hkp
        by_cases h5 : pf < uf
        · have hd5 : decide (uf ≤ pf) = false := by simp; omega
          go_wp2
          refine wp_region_lat (by kernel_rfl) (by kernel_rfl) ?_
          repeat (go_big_quiet_step ((first | (go_at_call 92; exact lat_call _ (l3report_is true _ _ _ _ _ _ _ _ HQ.out _ (HRV.out _) hvl)))))
          refine wpQuiet_nil ?_
          rintro w3 ⟨⟨_, hb3⟩, rfl⟩
          clear C0 C1 C2 C3 P0
          go_wp2
          go_roundw
          case rel =>
            refine ⟨k + 1, by omega, by go_num, fun j hj => ?_, hbel.trans (hb3.mono hbel.size)⟩
            by_cases e : j = k
            · rw [e, HG.out]; simp [HQ.out, h5]
            · exact hall.out j (by omega)
          case measure => simp [intOf]; omega
        · have hd5 : decide (uf ≤ pf) = true := by simp; omega
          go_wp2
          refine wp_region_lat (by kernel_rfl) (by kernel_rfl) ?_
          repeat (go_big_quiet_step ((first | (go_at_call 92; exact lat_call _ (l3report_is true _ _ _ _ _ _ _ _ HQ.out _ (HRV.out _) hvl)))))
          refine wpQuiet_nil ?_
          rintro w3 ⟨⟨_, hb3⟩, rfl⟩
          clear C0 C1 C2 C3 P0
          go_wp2
          go_ret
          refine ⟨ret_bool ?_, hbel.trans (hb3.mono hbel.size)⟩
          rw [← HZ.out]
          unfold repsOkB
          rw [allR_no (k := k) (by rw [rl_len, HV.out]; omega) (by rw [HG.out]; simp [h5]; intro _; omega)]
          rfl
      · clear hpv
        have hd : decide ((0 : Int) < (k : Int)) = false := by simp; omega
        have HK0 : Hid (k = 0) := by show _ = _; omega
        go_wp2
        refine wp_region_lat (by kernel_rfl) (by kernel_rfl) ?_
        repeat (go_big_quiet_step ((first | (go_at_call 92; exact lat_call _ (l3report_is true _ _ _ _ _ _ _ _ HQ.out _ (HRV.out _) hvl)))))
        refine wpQuiet_nil ?_
        rintro w3 ⟨⟨_, hb3⟩, rfl⟩
        clear C0 C1 C2 C3
        go_wp2
        go_roundw
        case rel =>
          refine ⟨k + 1, by omega, by go_num, fun j hj => ?_, hbel.trans (hb3.mono hbel.size)⟩
          by_cases e : j = k
          · rw [e, HG.out]; simp [HQ.out, HK0.out]
          · exact hall.out j (by omega)
        case measure => simp [intOf]; omega
    · have HA : Hid (z = (qs && viewR view)) := by
        show _ = _
        rw [← HZ.out]
        unfold repsOkB
        rw [allR_yes fun j hj => hall.out j (by rw [rl_len, HV.out] at hj; omega), HS.out]
        rfl
      cases qs
      · go_wp2_with (go_at_call 49; refine (specSize_is n false HS.out _).mono ?_; rintro e w1 ⟨rfl, rfl⟩)
        go_ret
        exact ⟨ret_bool (by rw [HA.out]; rfl), hbel⟩
      · by_cases h1 : 1 ≤ view
        · by_cases h2 : view ≤ 9
          all_goals
            go_wp2_with (go_at_call 49; refine (specSize_is n true HS.out _).mono ?_; rintro e w1 ⟨rfl, rfl⟩)
            go_ret
            exact ⟨ret_bool (by rw [HA.out]; simp [viewR]; try omega), hbel⟩
        · go_wp2_with (go_at_call 49; refine (specSize_is n true HS.out _).mono ?_; rintro e w1 ⟨rfl, rfl⟩)
          go_ret
          exact ⟨ret_bool (by rw [HA.out]; simp [viewR]; try omega), hbel⟩
set_option maxHeartbeats 1600000 in
theorem implReportsOk_yes (n view : Int) (A : Option Addr) (c : Nat) (ps : List Pp) (w : World) (hr : RdR w w.heap.size A ps) (hf : Few ps) (hsz : sizeB n = true) (hvw : viewR view = true) :
    Calls Tryz.prog 116 #[.int .i64 n, .int .i64 view, .slice A ps.length c] w fun e w' => e = .returned (.bool (repsOkB n view (rl ps))) ∧ Below w.heap.size w w' := by
  obtain ⟨hn, hv⟩ := hf
  obtain ⟨m, hvn⟩ : ∃ m, ps.length = m := ⟨_, rfl⟩
  rw [hvn] at hn hv ⊢
  have HVL := Lib.hid hv; clear hv
  have HV := Lib.hid hvn; clear hvn
  obtain ⟨z, hz⟩ : ∃ z, repsOkB n view (rl ps) = z := ⟨_, rfl⟩
  rw [hz]
  have HZ : Hid (allR n view (rl ps) = z) := by show _ = _; rw [← hz]; unfold repsOkB; rw [hsz, hvw]; simp
  clear hz
  have HS := Lib.hid hsz; clear hsz
  have hvo : viewOkB view = true := by unfold viewR at hvw; unfold viewOkB; simp at hvw ⊢; omega
  have hv0 : (view == 0) = false := by unfold viewR at hvw; simp at hvw ⊢; omega
  have HVO := Lib.hid hvo; clear hvo hvw
  go_enter Tryz.func116, Tryz.ntmps116
  go_wp2_with (first | (go_at_call 55; refine (implSize_is n true HS.out _).mono ?_; rintro e w1 ⟨rfl, h1⟩; obtain rfl := h1.symm) | (go_at_call 96; refine (implView_is view true HVO.out _).mono ?_; rintro e w1 ⟨rfl, h1⟩; obtain rfl := h1.symm))
  go_loopw [23] (fun i wr => ∃ (k : Nat), k ≤ m ∧ i = .int .i64 k ∧ Hid (∀ j, j < k → goodR n view (rl ps) j = true) ∧ Below w.heap.size w wr) (fun i _ => m - (intOf i).toNat)
  case atStart => exact ⟨0, Nat.zero_le _, rfl, fun j hj => absurd hj (by omega), Below.refl _ _⟩
  case round =>
    obtain ⟨k, hk, rfl, hall, hbel⟩ := hrel
    by_cases hlt : k < m
    · obtain ⟨b, off, rfl, hb, hc0, hc1, hc2, hc3, hrv⟩ := RdR.at_ (hr.below hbel) (k := k) (by rw [HV.out]; omega)
      have hpv : 0 < k → wr.cell? ⟨b, off + (k - 1) * 4, none⟩ = some (.int .i64 (ps.getD (k - 1) zP).r.f) := fun h0 => by
        obtain ⟨b', off', he, _, h1, _⟩ := RdR.at_ (hr.below hbel) (k := k - 1) (by rw [HV.out]; omega)
        injection he with he
        injection he with he1 he2
        subst he1 he2
        exact h1
      clear hr
      have hvl := HVL.out k hlt
      have HG : Hid (goodR n view (rl ps) k = (repB n view (ps.getD k zP).r && (decide (k = 0) || decide ((ps.getD (k - 1) zP).r.f < (ps.getD k zP).r.f)))) := by show _ = _; unfold goodR; rw [rl_at, rl_at]
      obtain ⟨⟨⟨uf, uv, ux, us⟩, A', c'⟩, hu⟩ : ∃ v, ps.getD k zP = v := ⟨_, rfl⟩
      obtain ⟨pf, hp⟩ : ∃ v, (ps.getD (k - 1) zP).r.f = v := ⟨_, rfl⟩
      rw [hu] at hc0 hc1 hc2 hc3 hrv hvl HG
      rw [hp] at hpv HG
      simp only at hc0 hc1 hc2 hc3 hrv hvl HG
      clear hu hp
      have hbw : Below wr.heap.size wr (wr.alloc (.cells #[.int .i64 uf, .int .i64 uv, .int .i64 ux, .slice A' us.length c'] 134)) := (Below.refl _ _).alloc (Nat.le_refl _) _
      have hbx := hbel.trans (hbw.mono hbel.size)
      have kx := Blk.new wr 134 #[.int .i64 uf, .int .i64 uv, .int .i64 ux, .slice A' us.length c']
      have hup : ∀ (o : Nat) (v : Value), wr.cell? ⟨b, o, none⟩ = some v → (wr.alloc (.cells #[.int .i64 uf, .int .i64 uv, .int .i64 ux, .slice A' us.length c'] 134)).cell? ⟨b, o, none⟩ = some v := fun o v h => (hbw.cell (p := ⟨b, o, none⟩) (by have := hbel.size; simp; omega)).trans h
      have HUP := Lib.hid hup; clear hup
      have hsx : (wr.alloc (.cells #[.int .i64 uf, .int .i64 uv, .int .i64 ux, .slice A' us.length c'] 134)).heap.size = wr.heap.size + 1 := by simp
      have HRV := Lib.hid ((fun x : Lat (wr.alloc (.cells #[.int .i64 uf, .int .i64 uv, .int .i64 ux, .slice A' us.length c'] 134)) => ((hrv.below (hbw.mono hbel.size)).below (x.below.mono hbx.size)).more (Nat.le_trans hbx.size x.below.size) : ∀ x : Lat _, Rd x.w x.w.heap.size A' us)); clear hrv
      have C0 := fun (x : Lat (wr.alloc (.cells #[.int .i64 uf, .int .i64 uv, .int .i64 ux, .slice A' us.length c'] 134))) (i : Nat) => lat_blk kx x i
      have HBX := Lib.hid hbx; have HSX := Lib.hid hsx; clear hbx hsx hbw kx
      rcases hq : repB n view ⟨uf, uv, ux, us⟩ with _ | _
      · have HQ := Lib.hid hq; clear hq hpv
        go_wp2
        refine wp_region_lat (by kernel_rfl) (by kernel_rfl) ?_
        repeat (go_big_quiet_step ((first | (go_at_call 127; exact lat_call _ (reportOk_is false _ _ _ _ _ _ _ _ HQ.out _ (HRV.out _) hvl)))))
        refine wpQuiet_nil ?_
        rintro w3 ⟨⟨_, hb3⟩, rfl⟩
        clear C0
        go_wp2
        go_ret
        refine ⟨ret_bool ?_, HBX.out.trans (hb3.mono HBX.out.size)⟩
        rw [← HZ.out]
        rw [allR_no (k := k) (by rw [rl_len, HV.out]; omega) (by rw [HG.out]; simp [HQ.out])]
      have HQ := Lib.hid hq; clear hq
      by_cases h4 : 0 < k
      · have hp0 := hpv h4
        clear hpv
        obtain ⟨p, hkp⟩ : ∃ p, k = p + 1 := ⟨k - 1, by omega⟩
        have hE : (k : Int) - 1 = (p : Int) := by omega
        have hW : IntKind.i64.wrap (p : Int) = (p : Int) := IntWalk.i64_in _ (by omega)
        rw [show k - 1 = p by omega] at hp0
        have P0 := fun x : Lat (wr.alloc (.cells #[.int .i64 uf, .int .i64 uv, .int .i64 ux, .slice A' us.length c'] 134)) => x.cell (HUP.out _ _ hp0)
        have hw4 : (p : Int) < (m : Int) := by omega
        have hw5 : p < m := by omega
        have HKP := Lib.hid hkp; clear hkp
        by_cases h5 : pf < uf
        · have hd5 : decide (uf ≤ pf) = false := by simp; omega
          go_wp2
          refine wp_region_lat (by kernel_rfl) (by kernel_rfl) ?_
          repeat (go_big_quiet_step ((first | (go_at_call 127; exact lat_call _ (reportOk_is true _ _ _ _ _ _ _ _ HQ.out _ (HRV.out _) hvl)))))
          refine wpQuiet_nil ?_
          rintro w3 ⟨⟨_, hb3⟩, rfl⟩
          clear C0 P0
          go_wp2
          go_roundw
          case rel =>
            refine ⟨k + 1, by omega, by go_num, fun j hj => ?_, HBX.out.trans (hb3.mono HBX.out.size)⟩
            by_cases e : j = k
            · rw [e, HG.out]; simp [HQ.out, h5]
            · exact hall.out j (by omega)
          case measure => simp [intOf]; omega
        · have hd5 : decide (uf ≤ pf) = true := by simp; omega
          go_wp2
          refine wp_region_lat (by kernel_rfl) (by kernel_rfl) ?_
          repeat (go_big_quiet_step ((first | (go_at_call 127; exact lat_call _ (reportOk_is true _ _ _ _ _ _ _ _ HQ.out _ (HRV.out _) hvl)))))
          refine wpQuiet_nil ?_
          rintro w3 ⟨⟨_, hb3⟩, rfl⟩
          clear C0 P0
          go_wp2
          go_ret
          refine ⟨ret_bool ?_, HBX.out.trans (hb3.mono HBX.out.size)⟩
          rw [← HZ.out]
          rw [allR_no (k := k) (by rw [rl_len, HV.out]; omega) (by rw [HG.out]; simp [h5]; intro _; omega)]
      · clear hpv
        have hd : decide ((0 : Int) < (k : Int)) = false := by simp; omega
        have HK0 : Hid (k = 0) := by show _ = _; omega
        go_wp2
        refine wp_region_lat (by kernel_rfl) (by kernel_rfl) ?_
        repeat (go_big_quiet_step ((first | (go_at_call 127; exact lat_call _ (reportOk_is true _ _ _ _ _ _ _ _ HQ.out _ (HRV.out _) hvl)))))
        refine wpQuiet_nil ?_
        rintro w3 ⟨⟨_, hb3⟩, rfl⟩
        clear C0
        go_wp2
        go_roundw
        case rel =>
          refine ⟨k + 1, by omega, by go_num, fun j hj => ?_, HBX.out.trans (hb3.mono HBX.out.size)⟩
          by_cases e : j = k
          · rw [e, HG.out]; simp [HQ.out, HK0.out]
          · exact hall.out j (by omega)
        case measure => simp [intOf]; omega
    · go_wp2
      go_ret
      refine ⟨ret_bool ?_, hbel⟩
      rw [← HZ.out, allR_yes fun j hj => hall.out j (by rw [rl_len, HV.out] at hj; omega)]

theorem implReportsOk_is (q : Bool) (n view : Int) (A : Option Addr) (c : Nat) (ps : List Pp) (hq : repsOkB n view (rl ps) = q) (w : World) (hr : RdR w w.heap.size A ps) (hf : Few ps) :
    Calls Tryz.prog 116 #[.int .i64 n, .int .i64 view, .slice A ps.length c] w fun e w' => e = .returned (.bool q) ∧ Below w.heap.size w w' := by
  rcases hs : sizeB n with _ | _
  · have e : q = false := by rw [← hq]; simp [repsOkB, hs]
    subst e
    have HS := Lib.hid hs; clear hs hq hr
    go_enter Tryz.func116, Tryz.ntmps116
    go_wp2_with (go_at_call 55; refine (implSize_is n false HS.out _).mono ?_; rintro e w1 ⟨rfl, rfl⟩)
    go_ret
    exact ⟨rfl, Below.refl _ _⟩
  · rcases hv : viewR view with _ | _
    · have e : q = false := by rw [← hq]; simp [repsOkB, hv]
      subst e
      have HS := Lib.hid hs; clear hs hq hr
      rcases ho : viewOkB view with _ | _
      · have HO := Lib.hid ho; clear ho hv
        go_enter Tryz.func116, Tryz.ntmps116
        go_wp2_with (first | (go_at_call 55; refine (implSize_is n true HS.out _).mono ?_; rintro e w1 ⟨rfl, rfl⟩) | (go_at_call 96; refine (implView_is view false HO.out _).mono ?_; rintro e w1 ⟨rfl, rfl⟩))
        go_ret
        exact ⟨rfl, Below.refl _ _⟩
      · obtain rfl : view = 0 := by unfold viewR at hv; unfold viewOkB at ho; simp at hv ho; omega
        have HO := Lib.hid ho; clear ho hv
        go_enter Tryz.func116, Tryz.ntmps116
        go_wp2_with (first | (go_at_call 55; refine (implSize_is n true HS.out _).mono ?_; rintro e w1 ⟨rfl, rfl⟩) | (go_at_call 96; refine (implView_is 0 true HO.out _).mono ?_; rintro e w1 ⟨rfl, rfl⟩))
        go_ret
        exact ⟨rfl, Below.refl _ _⟩
    · rw [← hq]; exact implReportsOk_yes n view A c ps w hr hf hs hv
theorem specReportsOk_is (q : Bool) (n view : Int) (A : Option Addr) (c : Nat) (ps : List Pp) (hq : repsOkB n view (rl ps) = q) (w : World) (hr : RdR w w.heap.size A ps) (hf : Few ps) :
    Calls Tryz.prog 74 #[.int .i64 n, .int .i64 view, .slice A ps.length c] w fun e w' => e = .returned (.bool q) ∧ Below w.heap.size w w' := by
  rw [← hq]; exact specReportsOk_any n view A c ps w hr hf
end Go.Proofs.YtfdfjmibjnmhpaaGreat.V
