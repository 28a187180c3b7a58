/-
  What MsgOk answers, of the model and of the program: contracts. No statement is proved here.
-/
import Derived.Test.YtfdfjmibjnmhpaaVotes
import Derived.Test.YtfdfjmibjnmhpaaVotesOkSpec
import Derived.Test.YtfdfjmibjnmhpaaVotesOkImpl
import Derived.Deep.RegionWith
set_option linter.unusedVariables false
set_option maxRecDepth 100000
namespace Go.Proofs.Ytfdfjmibjnmhpaa.V
open Go.RowKit Go.Proofs.Ytfdfjmibjnmhpaa.B

def lockOkB (a b below : Int) : Bool := decide (b = 0 ∧ a = 0) || (valOkB b && decide (0 ≤ a ∧ a < below))
def msgOkB (k v x a b : Int) (vs : List (Int × Int)) : Bool :=
  decide (0 ≤ k ∧ k ≤ 4) && viewOkB v && (if k = 3 then decide (x = 0 ∧ 1 ≤ v) && votesOkB vs v && lockOkB a b v else valOkB x && decide (a = 0 ∧ b = 0) && decide (vs.length = 0) && (decide (k ≠ 4) || decide (v = 0)))

theorem specVotesOk_is (q : Bool) (A : Option Addr) (c : Nat) (vs : List (Int × Int)) (below : Int) (hq : votesOkB vs below = q) (w : World) (hr : Rd w w.heap.size A vs) (hn : vs.length ≤ 1048576) :
    Calls Try.prog 74 #[.slice A vs.length c, .int .i64 below] w fun e w' => e = .returned (.bool q) ∧ Below w.heap.size w w' := by
  rw [← hq]; exact specVotesOk_any A c vs below w hr hn

set_option maxHeartbeats 1000000 in
theorem specMsgOk_plain (k v x a b : Int) (A : Option Addr) (c : Nat) (vs : List (Int × Int)) (w : World) (hr : Rd w w.heap.size A vs) (hn : vs.length ≤ 1048576) (hk : k ≠ 3) :
    Calls Try.prog 57 #[.agg #[.int .i64 k, .int .i64 v, .int .i64 x, .int .i64 a, .int .i64 b, .slice A vs.length c]] w fun e w' => e = .returned (.bool (msgOkB k v x a b vs)) ∧ Below w.heap.size w w' := by
  obtain ⟨qv, hqv⟩ : ∃ q, viewOkB v = q := ⟨_, rfl⟩
  have HV := Lib.hid hqv; clear hqv
  obtain ⟨qx, hqx⟩ : ∃ q, valOkB x = q := ⟨_, rfl⟩
  have HX := Lib.hid hqx; clear hqx
  have HK := Lib.hid hk
  have hk3 : (k != 3) = true := by rw [bne_iff_ne]; exact hk
  clear hk hr
  cases qv
  · go_enter Try.func57, Try.ntmps57
    go_wp2_with (go_at_call 72; refine (specView_is v _ HV.out _).mono ?_; rintro e w1 ⟨rfl, rfl⟩)
    all_goals go_ret
    all_goals refine ⟨ret_bool ?_, (Below.refl _ _).alloc (Nat.le_refl _) _⟩
    all_goals simp [msgOkB, HV.out]
  cases qx
  · go_enter Try.func57, Try.ntmps57
    go_wp2_with (first | (go_at_call 72; refine (specView_is v _ HV.out _).mono ?_; rintro e w1 ⟨rfl, rfl⟩) | (go_at_call 71; refine (specVal_is x _ HX.out _).mono ?_; rintro e w1 ⟨rfl, rfl⟩))
    all_goals go_ret
    all_goals refine ⟨ret_bool ?_, (Below.refl _ _).alloc (Nat.le_refl _) _⟩
    all_goals simp [msgOkB, HV.out, HX.out, HK.out]
    all_goals (intros; omega)
  · go_enter Try.func57, Try.ntmps57
    go_wp2_with (first | (go_at_call 72; refine (specView_is v _ HV.out _).mono ?_; rintro e w1 ⟨rfl, rfl⟩) | (go_at_call 71; refine (specVal_is x _ HX.out _).mono ?_; rintro e w1 ⟨rfl, rfl⟩))
    all_goals go_ret
    all_goals refine ⟨ret_bool ?_, (Below.refl _ _).alloc (Nat.le_refl _) _⟩
    all_goals simp [msgOkB, HV.out, HX.out, HK.out, *]
    all_goals first | rfl | (intros; omega) | (rw [show valOkB 0 = false from by decide]; simp; omega)

set_option maxHeartbeats 1000000 in
theorem specMsgOk_rep0 (v x a b : Int) (A : Option Addr) (c : Nat) (vs : List (Int × Int)) (w : World) (hr : Rd w w.heap.size A vs) (hn : vs.length ≤ 1048576) (hv : viewOkB v = false) :
    Calls Try.prog 57 #[.agg #[.int .i64 3, .int .i64 v, .int .i64 x, .int .i64 a, .int .i64 b, .slice A vs.length c]] w fun e w' => e = .returned (.bool (msgOkB 3 v x a b vs)) ∧ Below w.heap.size w w' := by
  have HV := Lib.hid hv; clear hv hr
  go_enter Try.func57, Try.ntmps57
  go_wp2_with (go_at_call 72; refine (specView_is v _ HV.out _).mono ?_; rintro e w1 ⟨rfl, rfl⟩)
  all_goals go_ret
  all_goals refine ⟨ret_bool ?_, (Below.refl _ _).alloc (Nat.le_refl _) _⟩
  all_goals simp [msgOkB, HV.out]

set_option maxHeartbeats 1000000 in
theorem specMsgOk_rep1 (v x a b : Int) (A : Option Addr) (c : Nat) (vs : List (Int × Int)) (w : World) (hr : Rd w w.heap.size A vs) (hn : vs.length ≤ 1048576) (hv : viewOkB v = true) (hl : votesOkB vs v = false) :
    Calls Try.prog 57 #[.agg #[.int .i64 3, .int .i64 v, .int .i64 x, .int .i64 a, .int .i64 b, .slice A vs.length c]] w fun e w' => e = .returned (.bool (msgOkB 3 v x a b vs)) ∧ Below w.heap.size w w' := by
  have HV := Lib.hid hv; clear hv
  have HL := Lib.hid hl; clear hl
  have hr0 := fun O => (hr.alloc (Nat.le_refl _) O).more (Bd' := (w.alloc O).heap.size) (by simp)
  have HR := Lib.hid hr0; clear hr0 hr
  go_enter Try.func57, Try.ntmps57
  go_wp2_with (first | (go_at_call 72; refine (specView_is v _ HV.out _).mono ?_; rintro e w1 ⟨rfl, rfl⟩) | (go_at_call 74; refine (specVotesOk_is _ A c vs v HL.out _ (HR.out _) hn).mono ?_; rintro e w1 ⟨rfl, hb1⟩; obtain ⟨hc1, hf1⟩ := bcell hb1; have hz1 : w.heap.size < w1.heap.size := (by have := hb1.size; simp at this; omega); have hB1 : Below w.heap.size w w1 := Below.trans ((Below.refl _ _).alloc (Nat.le_refl _) _) (hb1.mono (by simp)); clear hb1))
  all_goals go_ret
  all_goals refine ⟨ret_bool ?_, by first | exact hB1 | exact (Below.refl _ _).alloc (Nat.le_refl _) _⟩
  all_goals simp [msgOkB, lockOkB, HV.out, HL.out, *]
  all_goals first | rfl | (intros; omega) | (rw [show valOkB 0 = false from by decide]; simp; omega)

set_option maxHeartbeats 1000000 in
theorem specMsgOk_rep2 (v x a b : Int) (A : Option Addr) (c : Nat) (vs : List (Int × Int)) (w : World) (hr : Rd w w.heap.size A vs) (hn : vs.length ≤ 1048576) (hv : viewOkB v = true) (hl : votesOkB vs v = true) (hb : valOkB b = false) :
    Calls Try.prog 57 #[.agg #[.int .i64 3, .int .i64 v, .int .i64 x, .int .i64 a, .int .i64 b, .slice A vs.length c]] w fun e w' => e = .returned (.bool (msgOkB 3 v x a b vs)) ∧ Below w.heap.size w w' := by
  have HV := Lib.hid hv; clear hv
  have HL := Lib.hid hl; clear hl
  have HB := Lib.hid hb; clear hb
  have hr0 := fun O => (hr.alloc (Nat.le_refl _) O).more (Bd' := (w.alloc O).heap.size) (by simp)
  have HR := Lib.hid hr0; clear hr0 hr
  go_enter Try.func57, Try.ntmps57
  go_wp2_with (first | (go_at_call 72; refine (specView_is v _ HV.out _).mono ?_; rintro e w1 ⟨rfl, rfl⟩) | (go_at_call 74; refine (specVotesOk_is _ A c vs v HL.out _ (HR.out _) hn).mono ?_; rintro e w1 ⟨rfl, hb1⟩; obtain ⟨hc1, hf1⟩ := bcell hb1; have hz1 : w.heap.size < w1.heap.size := (by have := hb1.size; simp at this; omega); have hB1 : Below w.heap.size w w1 := Below.trans ((Below.refl _ _).alloc (Nat.le_refl _) _) (hb1.mono (by simp)); clear hb1) | (go_at_call_of 71 (Value.int .i64 b); refine (specVal_is b _ HB.out _).mono ?_; rintro e w2 ⟨rfl, rfl⟩) | (go_at_call_of 71 (Value.int .i64 0); refine (specVal_is 0 false (by decide) _).mono ?_; rintro e w2 ⟨rfl, rfl⟩))
  all_goals go_ret
  all_goals refine ⟨ret_bool ?_, by first | exact hB1 | exact (Below.refl _ _).alloc (Nat.le_refl _) _⟩
  all_goals simp [msgOkB, lockOkB, HV.out, HL.out, HB.out, *]
  all_goals first | rfl | (intros; omega) | (rw [show valOkB 0 = false from by decide]; simp; omega)

set_option maxHeartbeats 1000000 in
theorem specMsgOk_rep3 (v x a b : Int) (A : Option Addr) (c : Nat) (vs : List (Int × Int)) (w : World) (hr : Rd w w.heap.size A vs) (hn : vs.length ≤ 1048576) (hv : viewOkB v = true) (hl : votesOkB vs v = true) (hb : valOkB b = true) :
    Calls Try.prog 57 #[.agg #[.int .i64 3, .int .i64 v, .int .i64 x, .int .i64 a, .int .i64 b, .slice A vs.length c]] w fun e w' => e = .returned (.bool (msgOkB 3 v x a b vs)) ∧ Below w.heap.size w w' := by
  have HV := Lib.hid hv; clear hv
  have HL := Lib.hid hl; clear hl
  have HB := Lib.hid hb; clear hb
  have hr0 := fun O => (hr.alloc (Nat.le_refl _) O).more (Bd' := (w.alloc O).heap.size) (by simp)
  have HR := Lib.hid hr0; clear hr0 hr
  go_enter Try.func57, Try.ntmps57
  go_wp2_with (first | (go_at_call 72; refine (specView_is v _ HV.out _).mono ?_; rintro e w1 ⟨rfl, rfl⟩) | (go_at_call 74; refine (specVotesOk_is _ A c vs v HL.out _ (HR.out _) hn).mono ?_; rintro e w1 ⟨rfl, hb1⟩; obtain ⟨hc1, hf1⟩ := bcell hb1; have hz1 : w.heap.size < w1.heap.size := (by have := hb1.size; simp at this; omega); have hB1 : Below w.heap.size w w1 := Below.trans ((Below.refl _ _).alloc (Nat.le_refl _) _) (hb1.mono (by simp)); clear hb1) | (go_at_call_of 71 (Value.int .i64 b); refine (specVal_is b _ HB.out _).mono ?_; rintro e w2 ⟨rfl, rfl⟩) | (go_at_call_of 71 (Value.int .i64 0); refine (specVal_is 0 false (by decide) _).mono ?_; rintro e w2 ⟨rfl, rfl⟩))
  all_goals go_ret
  all_goals refine ⟨ret_bool ?_, by first | exact hB1 | exact (Below.refl _ _).alloc (Nat.le_refl _) _⟩
  all_goals simp [msgOkB, lockOkB, HV.out, HL.out, HB.out, *]
  all_goals first | rfl | (intros; omega) | (rw [show valOkB 0 = false from by decide]; simp; omega)

theorem specMsgOk_any (k v x a b : Int) (A : Option Addr) (c : Nat) (vs : List (Int × Int)) (w : World) (hr : Rd w w.heap.size A vs) (hn : vs.length ≤ 1048576) :
    Calls Try.prog 57 #[.agg #[.int .i64 k, .int .i64 v, .int .i64 x, .int .i64 a, .int .i64 b, .slice A vs.length c]] w fun e w' => e = .returned (.bool (msgOkB k v x a b vs)) ∧ Below w.heap.size w w' := by
  by_cases hk : k = 3
  · subst hk
    rcases hv : viewOkB v with _ | _
    · exact specMsgOk_rep0 v x a b A c vs w hr hn hv
    rcases hl : votesOkB vs v with _ | _
    · exact specMsgOk_rep1 v x a b A c vs w hr hn hv hl
    rcases hb : valOkB b with _ | _
    · exact specMsgOk_rep2 v x a b A c vs w hr hn hv hl hb
    · exact specMsgOk_rep3 v x a b A c vs w hr hn hv hl hb
  · exact specMsgOk_plain k v x a b A c vs w hr hn hk
theorem specMsgOk_is (q : Bool) (k v x a b : Int) (A : Option Addr) (c : Nat) (vs : List (Int × Int)) (hq : msgOkB k v x a b vs = q) (w : World) (hr : Rd w w.heap.size A vs) (hn : vs.length ≤ 1048576) :
    Calls Try.prog 57 #[.agg #[.int .i64 k, .int .i64 v, .int .i64 x, .int .i64 a, .int .i64 b, .slice A vs.length c]] w fun e w' => e = .returned (.bool q) ∧ Below w.heap.size w w' := by
  rw [← hq]; exact specMsgOk_any k v x a b A c vs w hr hn

end Go.Proofs.Ytfdfjmibjnmhpaa.V
