/-
  What the program's MsgOk answers: its contract. No statement is proved here.
-/
import Derived.Test.YtfdfjmibjnmhpaaMessageOf2
set_option linter.unusedVariables false
set_option maxRecDepth 100000
namespace Go.Proofs.Ytfdfjmibjnmhpaa.V
open Go.RowKit Go.Proofs.Ytfdfjmibjnmhpaa.B

theorem ok_cast {k v x a b : Int} {vs : List (Int × Int)} (hk : k = 0 ∨ k = 1 ∨ k = 2) : (decide (a = 0 ∧ b = 0 ∧ vs.length = 0) && (viewOkB v && valOkB x)) = msgOkB k v x a b vs := by
  unfold msgOkB
  rw [if_neg (by omega)]
  generalize vs.length = n
  cases viewOkB v <;> cases valOkB x <;> simp <;> rw [Bool.eq_iff_iff] <;> simp <;> omega
theorem ok_done {v x a b : Int} {vs : List (Int × Int)} : (decide (a = 0 ∧ b = 0 ∧ vs.length = 0 ∧ v = 0) && valOkB x) = msgOkB 4 v x a b vs := by
  unfold msgOkB viewOkB
  rw [if_neg (by omega)]
  generalize vs.length = n
  cases valOkB x <;> simp
  rw [Bool.eq_iff_iff]; simp
  omega
theorem ok_rep {v x a b : Int} {vs : List (Int × Int)} : (decide (x = 0) && repOkB v a b vs) = msgOkB 3 v x a b vs := by
  unfold msgOkB repOkB viewOkB
  rw [if_pos rfl]
  cases lockOkB a b v <;> cases votesOkB vs v <;> simp
  rw [Bool.eq_iff_iff]; simp
  omega
theorem ok_none {k v x a b : Int} {vs : List (Int × Int)} (hk : k < 0 ∨ 4 < k) : false = msgOkB k v x a b vs := by
  unfold msgOkB
  rw [show decide (0 ≤ k ∧ k ≤ 4) = false by simp; omega]
  rfl

/-- The interface value that messageOf makes of a message. -/
def messageV (k v x a b : Int) (s : Value) : Value :=
  if k = 0 ∨ k = 1 ∨ k = 2 then .iface 163 (.agg #[.int .i64 k, .int .i64 v, .int .i64 x])
  else if k = 3 then .iface 166 (.agg #[.int .i64 v, .int .i64 a, .int .i64 b, s])
  else if k = 4 then .iface 168 (.agg #[.int .i64 x]) else .nilIface

theorem messageOf_is (q : Bool) (k v x a b : Int) (A : Option Addr) (c : Nat) (vs : List (Int × Int)) (hq : msgOkB k v x a b vs = q) (w : World) (hr : Rd w w.heap.size A vs) (hn : vs.length ≤ 1048576) :
    Calls Try.prog 95 #[.agg #[.int .i64 k, .int .i64 v, .int .i64 x, .int .i64 a, .int .i64 b, .slice A vs.length c]] w fun e w' => e = .returned (.tuple #[messageV k v x a b (.slice A vs.length c), .bool q]) ∧ Below w.heap.size w w' := by
  unfold messageV
  by_cases h0 : k = 0 ∨ k = 1 ∨ k = 2
  · have h := messageOf_cast _ _ k v x a b A c vs.length h0 rfl rfl w
    rw [ok_cast h0, hq] at h
    rwa [if_pos h0]
  rw [if_neg h0]
  by_cases h3 : k = 3
  · subst h3
    have h := messageOf_rep _ _ v x a b A c vs rfl rfl w hr hn
    rw [ok_rep, hq] at h
    rwa [if_pos rfl]
  rw [if_neg h3]
  by_cases h4 : k = 4
  · subst h4
    have h := messageOf_done _ _ v x a b A c vs.length rfl rfl w
    rw [ok_done, hq] at h
    rwa [if_pos rfl]
  · have h5 : k < 0 ∨ 4 < k := by omega
    have h := messageOf_none k v x a b A c vs.length h5 w
    rw [ok_none (v := v) (x := x) (a := a) (b := b) (vs := vs) h5, hq] at h
    rwa [if_neg h4]

theorem implMsgOk_is (q : Bool) (k v x a b : Int) (A : Option Addr) (c : Nat) (vs : List (Int × Int)) (hq : msgOkB k v x a b vs = q) (w : World) (hr : Rd w w.heap.size A vs) (hn : vs.length ≤ 1048576) :
    Calls Try.prog 60 #[.agg #[.int .i64 k, .int .i64 v, .int .i64 x, .int .i64 a, .int .i64 b, .slice A vs.length c]] w fun e w' => e = .returned (.bool q) ∧ Below w.heap.size w w' := by
  have hr0 := fun O => (hr.alloc (Nat.le_refl _) O).more (Bd' := (w.alloc O).heap.size) (by simp)
  have HR := Lib.hid hr0; clear hr0 hr
  have HQ := Lib.hid hq; clear hq
  go_enter Try.func60, Try.ntmps60
  go_wp2_with (go_at_call 95; refine (messageOf_is q k v x a b A c vs HQ.out _ (HR.out _) hn).mono ?_; rintro e w1 ⟨rfl, hb1⟩)
  go_ret
  exact ⟨rfl, Below.trans ((Below.refl _ _).alloc (Nat.le_refl _) _) (hb1.mono (by simp))⟩
theorem implMsgOk_any (k v x a b : Int) (A : Option Addr) (c : Nat) (vs : List (Int × Int)) (w : World) (hr : Rd w w.heap.size A vs) (hn : vs.length ≤ 1048576) :
    Calls Try.prog 60 #[.agg #[.int .i64 k, .int .i64 v, .int .i64 x, .int .i64 a, .int .i64 b, .slice A vs.length c]] w fun e w' => e = .returned (.bool (msgOkB k v x a b vs)) ∧ Below w.heap.size w w' :=
  implMsgOk_is _ k v x a b A c vs rfl w hr hn
end Go.Proofs.Ytfdfjmibjnmhpaa.V
