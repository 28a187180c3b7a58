/-
  What the helpers of the laws count of reports: contracts of szReport and szReportS. No statement is proved here.
-/
import Derived.Test.YtfdfjmibjnmhpaaRep1
set_option linter.unusedVariables false
set_option maxRecDepth 100000
namespace Go.Proofs.Ytfdfjmibjnmhpaa.V
open Go.RowKit Go.Proofs.Ytfdfjmibjnmhpaa.B

theorem szReport_any (f a b : Int) (A : Option Addr) (n c : Nat) (left : Int) (w : World) (hn : n ≤ maxLen) (h0 : 0 ≤ left) (h1 : left ≤ 1048576) :
    Calls Try.prog 122 #[.agg #[.int .i64 f, .int .i64 a, .int .i64 b, .slice A n c], .int .i64 left] w fun e w' => e = .returned (.int .i64 (if left < n then -1 else left - n)) ∧ Below w.heap.size w w' := by
  by_cases h : left < n
  · have hc : ∀ W, Calls Try.prog 33 #[.slice A n c, .int .i64 left] W fun e w' => e = .returned (.int .i64 (-1)) ∧ W = w' := fun W => by
      have := sz_any A n c left W hn h0 h1
      rwa [if_pos h] at this
    have HC := Lib.hid hc; clear hc
    rw [if_pos h]
    go_enter Try.func122, Try.ntmps122
    go_wp2_with (go_at_call 33; refine (HC.out _).mono ?_; rintro e w1 ⟨rfl, rfl⟩)
    go_ret
    exact ⟨rfl, (Below.refl _ _).alloc (Nat.le_refl _) _⟩
  · have hc : ∀ W, Calls Try.prog 33 #[.slice A n c, .int .i64 left] W fun e w' => e = .returned (.int .i64 (left - n)) ∧ W = w' := fun W => by
      have := sz_any A n c left W hn h0 h1
      rwa [if_neg h] at this
    have HC := Lib.hid hc; clear hc
    rw [if_neg h]
    go_enter Try.func122, Try.ntmps122
    go_wp2_with (go_at_call 33; refine (HC.out _).mono ?_; rintro e w1 ⟨rfl, rfl⟩)
    go_ret
    exact ⟨rfl, (Below.refl _ _).alloc (Nat.le_refl _) _⟩

theorem ret_int2 {a b : Int} (h : a = b) : Ending.returned (.int .i64 a) = .returned (.int .i64 b) := by rw [h]
/-- How many votes the first k reports hold. -/
def tv (ps : List Pp) : Nat → Nat
  | 0 => 0
  | k + 1 => tv ps k + (ps.getD k zP).r.vs.length
theorem tv_mono (ps : List Pp) {i j : Nat} (h : i ≤ j) : tv ps i ≤ tv ps j := by
  induction j with
  | zero => obtain rfl : i = 0 := by omega
            exact Nat.le_refl _
  | succ j ih =>
    by_cases e : i = j + 1
    · subst e; exact Nat.le_refl _
    · have := ih (by omega)
      simp only [tv]; omega
theorem tv_one (ps : List Pp) {i j : Nat} (h : i < j) : (ps.getD i zP).r.vs.length ≤ tv ps j := by
  have := tv_mono ps (show i + 1 ≤ j by omega)
  simp only [tv] at this
  omega

set_option maxHeartbeats 800000 in
theorem szReportS_any (A : Option Addr) (c : Nat) (ps : List Pp) (left : Int) (w : World) (hr : RdR w w.heap.size A ps) (hn : ps.length ≤ maxLen) (hv : ∀ i, i < ps.length → (ps.getD i zP).r.vs.length ≤ maxLen) (h0 : 0 ≤ left) (h1 : left ≤ 1048576) :
    Calls Try.prog 102 #[.slice A ps.length c, .int .i64 left] w fun e w' => e = .returned (.int .i64 (if left < (ps.length : Int) + (tv ps ps.length : Int) then -1 else left - ps.length - tv ps ps.length)) ∧ Below w.heap.size w w' := by
  have hm := fun i => @tv_mono ps i ps.length
  obtain ⟨n, hvn⟩ : ∃ n, ps.length = n := ⟨_, rfl⟩
  rw [hvn] at hn hv hm ⊢
  unfold maxLen at hn
  have HM := Lib.hid hm; clear hm
  have HVL := Lib.hid hv; clear hv
  have HV := Lib.hid hvn; clear hvn
  obtain ⟨z, hz⟩ : ∃ z : Int, (if left < (n : Int) + (tv ps n : Int) then -1 else left - n - tv ps n) = z := ⟨_, rfl⟩
  rw [hz]
  have HZ := Lib.hid hz; clear hz
  by_cases hneg : left < n
  · have hz : z = -1 := by rw [← HZ.out, if_pos (by omega)]
    subst hz
    go_enter Try.func102, Try.ntmps102
    go_wp2
    go_ret
    exact ⟨rfl, Below.refl _ _⟩
  · have hnn : ¬ (left - n < 0) := by omega
    go_enter Try.func102, Try.ntmps102
    go_wp2
    go_loopw [1, 5] (fun l i wr => ∃ (k : Nat) (y : Int), k ≤ n ∧ i = .int .i64 k ∧ l = .int .i64 y ∧ 0 ≤ y ∧ y ≤ 1048576 ∧ Hid (y = left - n - tv ps k) ∧ Below w.heap.size w wr) (fun _ i _ => n - (intOf i).toNat)
    case atStart => exact ⟨0, left - n, Nat.zero_le _, rfl, rfl, by omega, by omega, by show _ = _; simp [tv], Below.refl _ _⟩
    case round =>
      obtain ⟨k, y, hk, rfl, rfl, hy0, hy1, hy, hbel⟩ := hrel
      by_cases hlt : k < n
      · obtain ⟨b, off, rfl, hb, hc0, hc1, hc2, hc3, hrv⟩ := RdR.at_ (hr.below hbel) (k := k) (by rw [HV.out]; omega)
        clear hr hrv
        have hvl := HVL.out k hlt
        have hst : tv ps (k + 1) = tv ps k + (ps.getD k zP).r.vs.length := rfl
        have hmm := HM.out (k + 1) (by omega)
        obtain ⟨⟨⟨f, v, x, vs⟩, A', c'⟩, hu⟩ : ∃ u, ps.getD k zP = u := ⟨_, rfl⟩
        rw [hu] at hc0 hc1 hc2 hc3 hvl hst
        simp only at hvl hst
        clear hu
        obtain ⟨m, hm⟩ : ∃ m, vs.length = m := ⟨_, rfl⟩
        simp only [hm] at hc3 hvl hst
        have HS : Hid (tv ps (k + 1) = tv ps k + m ∧ tv ps (k + 1) ≤ tv ps n) := ⟨hst, hmm⟩
        clear hst hmm hm
        unfold maxLen at hvl
        by_cases hs : y < m
        · have hcl := szReport_any f v x A' m c' y wr (by unfold maxLen; omega) hy0 hy1
          rw [if_pos hs] at hcl
          have HC := Lib.hid hcl; clear hcl
          go_wp2_with fail
          refine HC.out.mono ?_
          rintro e w1 ⟨rfl, hb1⟩
          go_wp2
          go_ret
          obtain ⟨h2, h3⟩ := HS.out
          have h4 := hy.out
          exact ⟨ret_int2 (by rw [← HZ.out, if_pos (by omega)]), hbel.trans (hb1.mono hbel.size)⟩
        · have hcl := szReport_any f v x A' m c' y wr (by unfold maxLen; omega) hy0 hy1
          rw [if_neg hs] at hcl
          have HC := Lib.hid hcl; clear hcl
          have hnn2 : ¬ (y - (m : Int) < 0) := by omega
          go_wp2_with fail
          refine HC.out.mono ?_
          rintro e w1 ⟨rfl, hb1⟩
          go_wp2
          go_roundw
          case rel =>
            refine ⟨k + 1, _, by omega, by go_num, rfl, by omega, by omega, ?_, hbel.trans (hb1.mono hbel.size)⟩
            have h2 := HS.out
            have h4 := hy.out
            show _ = _
            omega
          case measure => simp [intOf]; omega
      · go_wp2
        go_ret
        have hkn : k = n := by omega
        subst hkn
        have h4 := hy.out
        exact ⟨ret_int2 (by rw [← HZ.out, if_neg (by omega), ← h4]), hbel⟩
theorem szR_big (A : Option Addr) (c : Nat) (ps : List Pp) (w : World) (hr : RdR w w.heap.size A ps) (hn : ps.length ≤ maxLen) (hv : ∀ i, i < ps.length → (ps.getD i zP).r.vs.length ≤ maxLen) (h : (1048576 : Int) < (ps.length : Int) + (tv ps ps.length : Int)) :
    Calls Try.prog 102 #[.slice A ps.length c, .int .i64 1048576] w fun e w' => e = .returned (.int .i64 (-1)) ∧ Below w.heap.size w w' := by
  have := szReportS_any A c ps 1048576 w hr hn hv (by omega) (by omega)
  rwa [if_pos h] at this
theorem szR_small (A : Option Addr) (c : Nat) (ps : List Pp) (w : World) (hr : RdR w w.heap.size A ps) (h : ps.length + tv ps ps.length ≤ 1048576) :
    Calls Try.prog 102 #[.slice A ps.length c, .int .i64 1048576] w fun e w' => (∃ y : Int, 0 ≤ y ∧ y ≤ 1048576 ∧ y = 1048576 - ps.length - tv ps ps.length ∧ e = .returned (.int .i64 y)) ∧ Below w.heap.size w w' := by
  have := szReportS_any A c ps 1048576 w hr (by unfold maxLen; omega) (fun i hi => by have := tv_one ps hi; unfold maxLen; omega) (by omega) (by omega)
  rw [if_neg (by omega)] at this
  exact this.mono fun e w' ⟨he, hb⟩ => ⟨⟨_, by omega, by omega, rfl, he⟩, hb⟩
/-- What 'few' says of reports: they are copied and compared. -/
def Few (ps : List Pp) : Prop := ps.length ≤ 1048576 ∧ ∀ i, i < ps.length → (ps.getD i zP).r.vs.length ≤ 1048576
theorem few_of {ps : List Pp} (h : ps.length + tv ps ps.length ≤ 1048576) : Few ps := ⟨by omega, fun i hi => by have := tv_one ps hi; omega⟩
theorem Few.same {ps qs : List Pp} (h : Few ps) (e : rl qs = rl ps) : Few qs ∧ qs.length = ps.length := by
  have hl : qs.length = ps.length := by rw [← rl_len, e, rl_len]
  refine ⟨⟨by rw [hl]; exact h.1, fun i hi => ?_⟩, hl⟩
  have : (qs.getD i zP).r = (ps.getD i zP).r := by rw [← rl_at, e, rl_at]
  rw [this]
  exact h.2 i (by omega)
end Go.Proofs.Ytfdfjmibjnmhpaa.V
