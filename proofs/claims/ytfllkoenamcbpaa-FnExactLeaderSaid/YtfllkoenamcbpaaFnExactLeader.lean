/-
  Proved here: for whatever numbers, Leader of the program answers as Leader of the model. No condition.
-/
import Derived.Test.YtfllkoenamcbpaaRows
import Derived.Test.YtfllkoenamcbpaaDoor
import Derived.Test.YtfllkoenamcbpaaLead
import Derived.Test.YtfllkoenamcbpaaLift
set_option linter.unusedVariables false
set_option maxRecDepth 100000
namespace Go.Proofs.Ytfllkoenamcbpaa.fnExactLeader
open Go.RowKit Go.ChangeShapes Go.WideShapes Go.Proofs.Ytfllkoenamcbpaa.B Go.Proofs.Ytfllkoenamcbpaa.V

theorem walk0 (n v r : Int) (w : World) (hsp : ∀ W : World, Calls Try.prog 4 #[.int .i64 n, .int .i64 v] W fun e w' => e = .returned (.int .i64 r) ∧ w' = W) (him : ∀ W : World, Calls Try.prog 5 #[.int .i64 n, .int .i64 v] W fun e w' => e = .returned (.int .i64 r) ∧ w' = W) :
    Calls Try.prog 3 #[.int .i64 n, .int .i64 v] w fun e w' => e = .returned (.bool true) ∧ Below w.heap.size w w' := by
  have hne : (r != r) = false := by simp
  have HSP := Lib.hid hsp; clear hsp
  have HIM := Lib.hid him; clear him
  go_enter Try.func3, Try.ntmps3
  go_wp2_with fail
  refine (HSP.out _).mono ?_
  rintro e w1 ⟨rfl, h1⟩
  obtain rfl := h1.symm
  go_wp2_with fail
  refine (HIM.out _).mono ?_
  rintro e w2 ⟨rfl, h2⟩
  obtain rfl := h2.symm
  go_wp2
  go_ret
  exact ⟨rfl, Below.refl _ _⟩
theorem walk (n v : Int) (w : World) : Calls Try.prog 3 #[.int .i64 n, .int .i64 v] w fun e w' => e = .returned (.bool true) ∧ Below w.heap.size w w' :=
  walk0 n v _ w (specLeader_any n v) (implLeader_any n v)

theorem closed : joinedFacts Try.prog 3 Try.f3 Rows.fnExactLeaderSpec Rows.fnExactLeaderRow = true := by
  unfold joinedFacts
  rw [D.make_is, D.enter_is, D.final_is]
  kernel_rfl

set_option maxRecDepth 100000 in
theorem lifted (os : Os) (started : os.Started) (H : Type) (enc : TypeId × Value → H) :
    ReturnsInHanded {} Try.checked os 3 .any (Rows.fnExactLeaderSpec.pre6 enc Try.prog Try.f3 Rows.fnExactLeaderRow.domain false) (Rows.fnExactLeaderSpec.post enc Try.prog Try.f3 false true false false) := by
  refine returnsInHanded_of_change (C := Try.checked) D.own started (by kernel_rfl) Try.func3
    (ChangeSpec.witness6 (enc := enc) (C := Try.checked) false ⟨#[], #[.int .i64 0, .int .i64 0], []⟩ 8 (by kernel_rfl) (by kernel_rfl) (by kernel_rfl) (by kernel_rfl)) ?_
  intro W base args ds gs before hval0 hW hcnd _
  have hval : ∀ (j : Nat) t v, Try.f3.params[j]? = some t → args[j]? = some v → Value.okWide Try.prog W .any base t v := hval0
  have hW' := hW
  obtain ⟨p, q, hA0, hV, rfl, hfz, hnd⟩ := hW
  have hA : DataW.TrodAll enc Try.prog W 0 (fun _ => true) true Try.f3.params.toList args.toList ds p := hA0
  rw [Try.params3] at hA hval
  obtain ⟨v0, v1, d0, d1, p0, p1, rfl, rfl, rfl, h0, h1⟩ := trodAll_two hA
  obtain ⟨n, rfl, rfl, rfl, wn⟩ := open_int Try.underlying3 (hval 0 3 v0 rfl rfl) h0
  obtain ⟨v, rfl, rfl, rfl, wv⟩ := open_int Try.underlying3 (hval 1 3 v1 rfl rfl) h1
  refine (walk n v W).mono fun e W' ⟨he, hb⟩ => ⟨_, he, law_post D.laidOut hW' hb rfl (by kernel_rfl) Try.underlying4 (by kernel_rfl) rfl⟩

theorem over : Rows.fnExactLeaderRow.holds Try.pinned (OpenSpec.ofChange Rows.fnExactLeaderSpec) :=
  OpenClaim.holds_of_wide 3 Try.f3 rfl rfl rfl rfl rfl rfl rfl ⟨rfl, rfl, rfl, rfl, rfl⟩ rfl rfl rfl rfl rfl (by kernel_rfl) Try.func3 closed
    (of_decide_eq_true (by kernel_rfl)) (by unfold Func.isWrapper; first | (rw [if_pos (by decide +kernel)]; kernel_rfl) | (rw [if_neg (by decide +kernel)]; exact ⟨rfl, rfl⟩))
    (fun os started H enc _ => lifted os started H enc)

theorem proved : Rows.FnExactLeaderSaid :=
  over
end Go.Proofs.Ytfllkoenamcbpaa.fnExactLeader
