/-
  Proved here: for whatever bytes of a draw, the law FnWitnesses (the witnesses do not increase with the view from which they are counted; the grounds are the greatest view with a weak quorum of witnesses) answers true. No condition.
-/
import Derived.Test.YtikhakmddcmbpaaRows
import Derived.Test.YtikhakmddcmbpaaDoor
import Derived.Test.YtikhakmddcmbpaaDraws3
import Derived.Test.YtikhakmddcmbpaaSafeMath
import Derived.Test.YtikhakmddcmbpaaLift
set_option linter.unusedVariables false
set_option maxRecDepth 100000
namespace Go.Proofs.Ytikhakmddcmbpaa.fnWitnesses
open Go.RowKit Go.ChangeShapes Go.WideShapes Go.Proofs.Ytikhakmddcmbpaa.B Go.Proofs.Ytikhakmddcmbpaa.V

set_option maxHeartbeats 3200000 in
theorem walk (A : Option Addr) (nb c : Nat) (hm : nb ≤ maxLen) (w : World) (hr : RdC w w.heap.size A nb) :
    Calls Try.prog 4 #[.slice A nb c] w fun e w' => e = .returned (.bool true) ∧ Below w.heap.size w w' := by
  have HD := Lib.hid (drawWitnesses_any A nb c hm w hr)
  clear hr
  go_enter Try.func4, Try.ntmps4
  go_wp2_with fail
  refine HD.out.mono ?_
  rintro e w1 ⟨n, view, B, d, ps, x, y, hx, hy, rfl, hok, hr1, hB1⟩
  have hf := hok.few
  have hr1 := Lib.hid hr1
  have hB1 := Lib.hid hB1
  obtain ⟨q, hq⟩ : ∃ q, repsOkB n view (rl ps) = q := ⟨_, rfl⟩
  have HQ := Lib.hid (fun W h => specReportsOk_is q n view B d ps hq W h hf)
  have hlen : (rl ps).length = ps.length := rl_len ps
  obtain ⟨val, hval⟩ : ∃ v : Int, (x : Int) = v := ⟨_, rfl⟩
  obtain ⟨fr, hfr⟩ : ∃ v : Int, (y : Int) = v := ⟨_, rfl⟩
  have hfr4 : 0 ≤ fr ∧ fr < 5 := by omega
  rw [hval, hfr] at *
  clear hval hfr hx hy
  obtain ⟨w0, hw0⟩ : ∃ z, witT n view (rl ps) val fr = z := ⟨_, rfl⟩
  obtain ⟨g, hg⟩ : ∃ z, groundsT n view (rl ps) val = z := ⟨_, rfl⟩
  have HW0 : Hid (∀ W, RdR W W.heap.size B ps → Calls Try.prog 26 #[.int .i64 n, .int .i64 view, .slice B ps.length d, .int .i64 (val), .int .i64 (fr)] W fun e w' => e = .returned (.int .i64 w0) ∧ Below W.heap.size W w') := fun W h => by
    have := implWitnesses_any n view val fr B d ps _ rfl W h hf
    rwa [hw0] at this
  have HG : Hid (∀ W, RdR W W.heap.size B ps → Calls Try.prog 27 #[.int .i64 n, .int .i64 view, .slice B ps.length d, .int .i64 (val)] W fun e w' => e = .returned (.int .i64 g) ∧ Below W.heap.size W w') := fun W h => by
    have := implGrounds_any n view val B d ps _ rfl W h hf
    rwa [hg] at this
  go_wp2_with fail
  refine (HW0.out _ hr1.out).mono ?_
  rintro e w2 ⟨rfl, hb⟩
  have hr2 := Lib.hid (hr1.out.on hb)
  have hB2 := Lib.hid (on_ hB1.out hb)
  clear hb hr1 hB1
  go_wp2_with fail
  refine (HG.out _ hr2.out).mono ?_
  rintro e w3 ⟨rfl, hb⟩
  have hr3 := Lib.hid (hr2.out.on hb)
  have hB3 := Lib.hid (on_ hB2.out hb)
  clear hb hr2 hB2
  rcases q with _ | _
  · have hw00 : w0 = 0 := by rw [← hw0, witT, hq]; rfl
    have hg0 : g = -1 := by rw [← hg, groundsT, hq]; rfl
    subst hw00 hg0
    go_wp2_with fail
    refine (HQ.out _ hr3.out).mono ?_
    rintro e w4 ⟨rfl, hb⟩
    have hr4 := Lib.hid (hr3.out.on hb)
    have hB4 := Lib.hid (on_ hB3.out hb)
    clear hb hr3 hB3
    go_wp2_with fail
    refine (reports_is _).mono ?_
    rintro e w5 ⟨rfl, hb⟩
    have hB5 := on_ hB4.out hb
    go_wp2
    go_ret
    exact ⟨rfl, hB5⟩
  · obtain ⟨w1v, hw1⟩ : ∃ z, witT n view (rl ps) val (fr + 1) = z := ⟨_, rfl⟩
    obtain ⟨w2v, hw2⟩ : ∃ z, witT n view (rl ps) val g = z := ⟨_, rfl⟩
    obtain ⟨w3v, hw3⟩ : ∃ z, witT n view (rl ps) val (g + 1) = z := ⟨_, rfl⟩
    obtain ⟨wk, hwk⟩ : ∃ z, weakR n = z := ⟨_, rfl⟩
    have HW1 : Hid (∀ W, RdR W W.heap.size B ps → Calls Try.prog 26 #[.int .i64 n, .int .i64 view, .slice B ps.length d, .int .i64 (val), .int .i64 (fr + 1)] W fun e w' => e = .returned (.int .i64 w1v) ∧ Below W.heap.size W w') := fun W h => by
      have := implWitnesses_any n view val (fr + 1) B d ps _ rfl W h hf
      rwa [hw1] at this
    have HW2 : Hid (∀ W, RdR W W.heap.size B ps → Calls Try.prog 26 #[.int .i64 n, .int .i64 view, .slice B ps.length d, .int .i64 (val), .int .i64 (g)] W fun e w' => e = .returned (.int .i64 w2v) ∧ Below W.heap.size W w') := fun W h => by
      have := implWitnesses_any n view val (g) B d ps _ rfl W h hf
      rwa [hw2] at this
    have HW3 : Hid (∀ W, RdR W W.heap.size B ps → Calls Try.prog 26 #[.int .i64 n, .int .i64 view, .slice B ps.length d, .int .i64 (val), .int .i64 (g + 1)] W fun e w' => e = .returned (.int .i64 w3v) ∧ Below W.heap.size W w') := fun W h => by
      have := implWitnesses_any n view val (g + 1) B d ps _ rfl W h hf
      rwa [hw3] at this
    have hwf := wit_facts hq val fr
    have hge : groundsR n view (rl ps) val = g := by rw [← hg, groundsT, hq]; rfl
    have e0 : w0 = (wit (rl ps) val fr : Int) := by rw [← hw0, witT, hq]; rfl
    have e1 : w1v = (wit (rl ps) val (fr + 1) : Int) := by rw [← hw1, witT, hq]; rfl
    have e2 : w2v = (wit (rl ps) val g : Int) := by rw [← hw2, witT, hq]; rfl
    have e3 : w3v = (wit (rl ps) val (g + 1) : Int) := by rw [← hw3, witT, hq]; rfl
    rw [hge, hwk, ← e2, ← e3] at hwf
    obtain ⟨f1, f2, f3, f4, f5, f6⟩ := hwf
    have d1 : decide (w0 < w1v) = false := decide_eq_false (by omega)
    have d2 : decide ((ps.length : Int) < w0) = false := decide_eq_false (by omega)
    have d3 : decide (view ≤ g) = false := decide_eq_false (by omega)
    have d4 : decide (g < -1) = false := decide_eq_false (by omega)
    have d6 : decide (w3v < wk) = true := decide_eq_true f6
    have hgb : g < 11 := by have := hok.2.2.2.1; omega
    have HWK : Hid (∀ W, Calls Try.prog 29 #[.int .i64 n] W fun e w' => e = .returned (.int .i64 wk) ∧ w' = W) := fun W => by
      have := specWeak_any n W
      rwa [hwk] at this
    have f5 := Lib.hid f5
    clear e0 e1 e2 e3 f1 f2 f3 f6 hge hw0 hw1 hw2 hw3 hwk hg hq hlen hok hf
    go_wp2_with fail
    refine (HQ.out _ hr3.out).mono ?_
    rintro e w4 ⟨rfl, hb⟩
    have hr4 := Lib.hid (hr3.out.on hb)
    have hB4 := Lib.hid (on_ hB3.out hb)
    clear hb hr3 hB3
    go_wp2_with fail
    refine (HW1.out _ hr4.out).mono ?_
    rintro e w5 ⟨rfl, hb⟩
    have hr5 := Lib.hid (hr4.out.on hb)
    have hB5 := Lib.hid (on_ hB4.out hb)
    clear hb hr4 hB4
    by_cases hg0 : 0 ≤ g
    · have d0 : decide (0 ≤ g) = true := decide_eq_true hg0
      have d5 : decide (w2v < wk) = false := decide_eq_false (by have := f5.out hg0; omega)
      clear f5
      go_wp2_with fail
      refine (HW2.out _ hr5.out).mono ?_
      rintro e w6 ⟨rfl, hb⟩
      have hr6 := Lib.hid (hr5.out.on hb)
      have hB6 := Lib.hid (on_ hB5.out hb)
      clear hb hr5 hB5
      go_wp2_with fail
      refine (HWK.out _).mono ?_
      rintro e wz ⟨rfl, hwz⟩
      subst hwz
      go_wp2_with fail
      refine (HW3.out _ hr6.out).mono ?_
      rintro e w7 ⟨rfl, hb⟩
      have hr7 := Lib.hid (hr6.out.on hb)
      have hB7 := Lib.hid (on_ hB6.out hb)
      clear hb hr6 hB6
      go_wp2_with fail
      refine (HWK.out _).mono ?_
      rintro e wz ⟨rfl, hwz⟩
      subst hwz
      go_wp2_with fail
      refine (reports_is _).mono ?_
      rintro e w8 ⟨rfl, hb⟩
      have hB8 := on_ hB7.out hb
      go_wp2
      go_ret
      exact ⟨rfl, hB8⟩
    · have d0 : decide (0 ≤ g) = false := decide_eq_false hg0
      clear f5
      go_wp2_with fail
      refine (HW3.out _ hr5.out).mono ?_
      rintro e w6 ⟨rfl, hb⟩
      have hr6 := Lib.hid (hr5.out.on hb)
      have hB6 := Lib.hid (on_ hB5.out hb)
      clear hb hr5 hB5
      go_wp2_with fail
      refine (HWK.out _).mono ?_
      rintro e wz ⟨rfl, hwz⟩
      subst hwz
      go_wp2_with fail
      refine (reports_is _).mono ?_
      rintro e w7 ⟨rfl, hb⟩
      have hB7 := on_ hB6.out hb
      go_wp2
      go_ret
      exact ⟨rfl, hB7⟩

theorem closed : joinedFacts Try.prog 4 Try.f4 Rows.fnWitnessesSpec Rows.fnWitnessesRow = true := by
  unfold joinedFacts
  rw [D.make_is, D.enter_is, D.final_is]
  kernel_rfl

set_option maxRecDepth 100000 in
theorem lifted (os : Os) (started : os.Started) (H : Type) (enc : TypeId × Value → H) :
    ReturnsInHanded {} Try.checked os 4 .any (Rows.fnWitnessesSpec.pre6 enc Try.prog Try.f4 Rows.fnWitnessesRow.domain false) (Rows.fnWitnessesSpec.post enc Try.prog Try.f4 false true false false) := by
  refine returnsInHanded_of_change (C := Try.checked) D.own started (by kernel_rfl) Try.func4
    (ChangeSpec.witness6 (enc := enc) (C := Try.checked) false ⟨#[], #[.slice none 0 0], []⟩ 8 (by kernel_rfl) (by kernel_rfl) (by kernel_rfl) (by kernel_rfl)) ?_
  intro W base args ds gs before hval0 hW hcnd _
  have hval : ∀ (j : Nat) t v, Try.f4.params[j]? = some t → args[j]? = some v → Value.okWide Try.prog W .any base t v := hval0
  have hW' := hW
  obtain ⟨p, q, hA0, hV, rfl, hfz, hnd⟩ := hW
  have hA : DataW.TrodAll enc Try.prog W 0 (fun _ => true) true Try.f4.params.toList args.toList ds p := hA0
  rw [Try.params4] at hA hval
  obtain ⟨v0, d0, rfl, rfl, h0⟩ := trodAll_one hA
  obtain ⟨a0, len0, cap0, rfl⟩ := okWide_slice Try.underlying22 (hval 0 22 v0 rfl rfl)
  obtain ⟨fuel0, hf0⟩ := h0
  obtain ⟨Ab, nb, cb, hcs0, hmb, hrb⟩ := open_code hf0
  have hv0 : (Value.slice a0 len0 cap0) = .slice Ab nb cb := by simpa [Value.cells] using hcs0
  rw [hv0] at hW' ⊢
  refine (walk Ab nb cb hmb W hrb).mono fun e W' ⟨he, hb⟩ => ⟨_, he, law_post D.laidOut hW' hb rfl (by kernel_rfl) Try.underlying4 (by kernel_rfl) rfl⟩

theorem over : Rows.fnWitnessesRow.holds Try.pinned (OpenSpec.ofChange Rows.fnWitnessesSpec) :=
  OpenClaim.holds_of_wide 4 Try.f4 rfl rfl rfl rfl rfl rfl rfl ⟨rfl, rfl, rfl, rfl, rfl⟩ rfl rfl rfl rfl rfl (by kernel_rfl) Try.func4 closed
    (of_decide_eq_true (by kernel_rfl)) (by unfold Func.isWrapper; first | (rw [if_pos (by decide +kernel)]; kernel_rfl) | (rw [if_neg (by decide +kernel)]; exact ⟨rfl, rfl⟩))
    (fun os started H enc _ => lifted os started H enc)

theorem proved : Rows.FnWitnessesSaid :=
  over
end Go.Proofs.Ytikhakmddcmbpaa.fnWitnesses
