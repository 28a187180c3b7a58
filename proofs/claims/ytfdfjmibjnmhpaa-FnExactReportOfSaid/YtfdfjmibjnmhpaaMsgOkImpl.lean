/-
  What the program's MsgOk and messageOf answer: contracts. No statement is proved here.
-/
import Derived.Test.YtfdfjmibjnmhpaaMsgOk
set_option linter.unusedVariables false
set_option maxRecDepth 100000
namespace Go.Proofs.Ytfdfjmibjnmhpaa.V
open Go.RowKit Go.Proofs.Ytfdfjmibjnmhpaa.B

theorem castOk_is (q : Bool) (k v x : Int) (hq : (viewOkB v && valOkB x) = q) (w : World) :
    Calls Try.prog 117 #[.agg #[.int .i64 k, .int .i64 v, .int .i64 x]] w fun e w' => e = .returned (.bool q) ∧ Below w.heap.size w w' := by
  subst hq
  obtain ⟨qv, hv⟩ : ∃ q, viewOkB v = q := ⟨_, rfl⟩
  obtain ⟨qx, hx⟩ : ∃ q, valOkB x = q := ⟨_, rfl⟩
  have HV := Lib.hid hv
  have HX := Lib.hid hx
  rw [hv, hx]; clear hv hx
  cases qv <;> cases qx
  all_goals
    go_enter Try.func117, Try.ntmps117
    go_wp2_with (first | (go_at_call 82; refine (implView_is v _ HV.out _).mono ?_; rintro e w1 ⟨rfl, rfl⟩) | (go_at_call 81; refine (implVal_is x _ HX.out _).mono ?_; rintro e w1 ⟨rfl, rfl⟩))
    go_ret
    exact ⟨rfl, (Below.refl _ _).alloc (Nat.le_refl _) _⟩

theorem doneOk_is (q : Bool) (x : Int) (hq : valOkB x = q) (w : World) :
    Calls Try.prog 119 #[.agg #[.int .i64 x]] w fun e w' => e = .returned (.bool q) ∧ Below w.heap.size w w' := by
  have HX := Lib.hid hq; clear hq
  go_enter Try.func119, Try.ntmps119
  go_wp2_with (go_at_call 81; refine (implVal_is x _ HX.out _).mono ?_; rintro e w1 ⟨rfl, rfl⟩)
  go_ret
  exact ⟨rfl, (Below.refl _ _).alloc (Nat.le_refl _) _⟩

theorem lockOk_impl (a b v : Int) : viewOkB v = true → lockOkB a b v = (decide (a = 0 ∧ b = 0) || voteOkB a b v) := by
  intro h
  unfold viewOkB at h
  have h := of_decide_eq_true h
  unfold lockOkB voteOkB viewOkB
  rw [Bool.eq_iff_iff]
  simp only [Bool.or_eq_true, Bool.and_eq_true, decide_eq_true_eq]
  constructor
  · rintro (h1 | ⟨h1, h2⟩)
    · exact .inl ⟨h1.2, h1.1⟩
    · exact .inr ⟨⟨⟨by omega, by omega⟩, by omega⟩, h1⟩
  · rintro (h1 | ⟨⟨h1, h2⟩, h3⟩)
    · exact .inl ⟨h1.2, h1.1⟩
    · exact .inr ⟨h3, by omega, h2⟩

theorem lockOk_is (q : Bool) (a b v : Int) (hq : (decide (a = 0 ∧ b = 0) || voteOkB a b v) = q) (w : World) :
    Calls Try.prog 85 #[.agg #[.int .i64 a, .int .i64 b], .int .i64 v] w fun e w' => e = .returned (.bool q) ∧ Below w.heap.size w w' := by
  subst hq
  obtain ⟨qq, hv⟩ : ∃ q, voteOkB a b v = q := ⟨_, rfl⟩
  have HV := Lib.hid hv
  rw [hv]; clear hv
  by_cases ha : a = 0
  · subst ha
    by_cases hb : b = 0
    · subst hb
      go_enter Try.func85, Try.ntmps85
      go_wp2_with fail
      go_ret
      exact ⟨rfl, ((Below.refl _ _).alloc (Nat.le_refl _) _)⟩
    · have HB := Lib.hid hb
      go_enter Try.func85, Try.ntmps85
      go_wp2_with (go_at_call 107; refine (voteOk_is 0 b v _ HV.out _).mono ?_; rintro e w1 ⟨rfl, hb1⟩)
      go_ret
      exact ⟨ret_bool (by simp [HB.out]), Below.trans ((Below.refl _ _).alloc (Nat.le_refl _) _) (hb1.mono (by simp))⟩
  · have HA := Lib.hid ha
    go_enter Try.func85, Try.ntmps85
    go_wp2_with (go_at_call 107; refine (voteOk_is a b v _ HV.out _).mono ?_; rintro e w1 ⟨rfl, hb1⟩)
    go_ret
    exact ⟨ret_bool (by simp [HA.out]), Below.trans ((Below.refl _ _).alloc (Nat.le_refl _) _) (hb1.mono (by simp))⟩

theorem implVotesOk_is (q : Bool) (A : Option Addr) (c : Nat) (vs : List (Int × Int)) (below : Int) (hq : votesOkB vs below = q) (w : World) (hr : Rd w w.heap.size A vs) (hn : vs.length ≤ 1048576) :
    Calls Try.prog 84 #[.slice A vs.length c, .int .i64 below] w fun e w' => e = .returned (.bool q) ∧ Below w.heap.size w w' := by
  rw [← hq]; exact implVotesOk_any A c vs below w hr hn

def repOkB (v a b : Int) (vs : List (Int × Int)) : Bool := viewOkB v && decide (v ≠ 0) && lockOkB a b v && votesOkB vs v

set_option maxHeartbeats 800000 in
theorem repOk_is (q : Bool) (v a b : Int) (A : Option Addr) (c : Nat) (vs : List (Int × Int)) (hq : repOkB v a b vs = q) (w : World) (hr : Rd w w.heap.size A vs) (hn : vs.length ≤ 1048576) :
    Calls Try.prog 118 #[.agg #[.int .i64 v, .int .i64 a, .int .i64 b, .slice A vs.length c]] w fun e w' => e = .returned (.bool q) ∧ Below w.heap.size w w' := by
  subst hq
  have hl0 := lockOk_impl a b v
  unfold repOkB
  obtain ⟨qv, hv⟩ : ∃ q, viewOkB v = q := ⟨_, rfl⟩
  obtain ⟨qk, hk⟩ : ∃ q, lockOkB a b v = q := ⟨_, rfl⟩
  obtain ⟨ql, hl⟩ : ∃ q, votesOkB vs v = q := ⟨_, rfl⟩
  have HV := Lib.hid hv
  have HL := Lib.hid hl
  have hr0 := fun O => (hr.alloc (Nat.le_refl _) O).more (Bd' := (w.alloc O).heap.size) (by simp)
  have HR := Lib.hid hr0; clear hr0 hr
  rw [hv, hk, hl]
  cases qv
  · clear hv hk hl hl0
    go_enter Try.func118, Try.ntmps118
    go_wp2_with (go_at_call 82; refine (implView_is v _ HV.out _).mono ?_; rintro e w1 ⟨rfl, rfl⟩)
    go_ret
    exact ⟨rfl, ((Below.refl _ _).alloc (Nat.le_refl _) _)⟩
  have hk := (hl0 hv).symm.trans hk
  have HK := Lib.hid hk
  clear hv hk hl hl0
  by_cases h0 : v = 0
  · have h0' : (v != 0) = false := by rw [h0]; rfl
    have H0 := Lib.hid h0; clear h0
    go_enter Try.func118, Try.ntmps118
    go_wp2_with (go_at_call 82; refine (implView_is v _ HV.out _).mono ?_; rintro e w1 ⟨rfl, rfl⟩)
    go_ret
    exact ⟨ret_bool (by simp [H0.out]), ((Below.refl _ _).alloc (Nat.le_refl _) _)⟩
  have h0' : (v != 0) = true := by rw [bne_iff_ne]; exact h0
  have H0 := Lib.hid h0; clear h0
  cases qk <;> cases ql
  all_goals
    go_enter Try.func118, Try.ntmps118
    go_wp2_with (first | (go_at_call 82; refine (implView_is v _ HV.out _).mono ?_; rintro e w1 ⟨rfl, rfl⟩) | (go_at_call 85; refine (lockOk_is _ a b v HK.out _).mono ?_; rintro e w1 ⟨rfl, hb1⟩; obtain ⟨hc1, hf1⟩ := bcell hb1; have hz1 : w.heap.size < w1.heap.size := (by have := hb1.size; simp at this; omega); have hB1 : Below w.heap.size w w1 := Below.trans ((Below.refl _ _).alloc (Nat.le_refl _) _) (hb1.mono (by simp)); have hr1 := (((HR.out _).below hb1).more hb1.size); have HR1 := Lib.hid hr1; clear hr1 hb1) | (go_at_call 84; refine (implVotesOk_is _ A c vs v HL.out _ HR1.out hn).mono ?_; rintro e w2 ⟨rfl, hb2⟩; have hB2 := hB1.trans (hb2.mono hB1.size)))
    go_ret
    exact ⟨ret_bool (by simp [H0.out]), by first | exact hB2 | exact hB1⟩
end Go.Proofs.Ytfdfjmibjnmhpaa.V
