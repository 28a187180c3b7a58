/-
  Proved here: for whatever number, SizeOk of the program answers as SizeOk of the model. No condition.
-/
import Derived.Test.YtebcelebhlmfoaaRows
import Derived.Test.YtebcelebhlmfoaaTallyOpen
import Derived.Test.YtebcelebhlmfoaaImplSmall
import Derived.Test.YtebcelebhlmfoaaLift
set_option linter.unusedVariables false
namespace Go.Proofs.Ytebcelebhlmfoaa.fnExactSizeOk
open Go.RowKit Go.ChangeShapes Go.WideShapes Go.Proofs.Ytebcelebhlmfoaa.B Go.Proofs.Ytebcelebhlmfoaa.V

theorem walk0 (n : Int) (r : Bool) (w : World) (hsp : ∀ W : World, Calls Try.prog 17 #[.int .i64 n] W fun e w' => e = .returned (.bool r) ∧ Below W.heap.size W w') (him : ∀ W : World, Calls Try.prog 18 #[.int .i64 n] W fun e w' => e = .returned (.bool r) ∧ Below W.heap.size W w') :
    Calls Try.prog 3 #[.int .i64 n] w fun e w' => e = .returned (.bool true) ∧ Below w.heap.size w w' := by
  have hne : (r != r) = false := by simp
  have HSP := Lib.hid hsp; clear hsp
  have HIM := Lib.hid him; clear him
  go_enter Try.func3, Try.ntmps3
  go_wp2_with fail
  refine (HSP.out _).mono ?_
  rintro e w1 ⟨rfl, hb1⟩
  go_wp2_with fail
  refine (HIM.out _).mono ?_
  rintro e w2 ⟨rfl, hb2⟩
  go_wp2
  go_ret
  exact ⟨rfl, on_ hb1 hb2⟩
theorem same_bel {P : Program} {f : FuncId} {a : Array Value} {W : World} {v : Value} (h : Calls P f a W fun e w' => e = .returned v ∧ w' = W) : Calls P f a W fun e w' => e = .returned v ∧ Below W.heap.size W w' :=
  h.mono fun e w' h => ⟨h.1, by rw [h.2]; exact Below.refl _ _⟩
theorem walk (n : Int) (w : World) : Calls Try.prog 3 #[.int .i64 n] w fun e w' => e = .returned (.bool true) ∧ Below w.heap.size w w' :=
  walk0 n _ w (fun W => same_bel (specSize_any n W)) (fun W => same_bel (implSize_any n W))

theorem own : ownKnob Try.prog.godebug = none := by kernel_rfl
theorem laidOut : laidOutB Try.prog = true := by kernel_rfl

set_option maxRecDepth 100000 in
theorem lifted (os : Os) (started : os.Started) (H : Type) (enc : TypeId × Value → H) :
    ReturnsInHanded {} Try.checked os 3 .any (Rows.fnExactSizeOkSpec.pre6 enc Try.prog Try.f3 Rows.fnExactSizeOkRow.domain false) (Rows.fnExactSizeOkSpec.post enc Try.prog Try.f3 false true false false) := by
  refine returnsInHanded_of_change (C := Try.checked) own started (by kernel_rfl) Try.func3
    (ChangeSpec.witness6 (enc := enc) (C := Try.checked) false ⟨#[], #[.int .i64 0], []⟩ 8 (by kernel_rfl) (by kernel_rfl) (by kernel_rfl) (by kernel_rfl)) ?_
  intro W base args ds gs before hval0 hW hcnd _
  have hval : ∀ (j : Nat) t v, Try.f3.params[j]? = some t → args[j]? = some v → Value.okWide Try.prog W .any base t v := hval0
  have hW' := hW
  obtain ⟨p, q, hA0, hV, rfl, hfz, hnd⟩ := hW
  have hA : DataW.TrodAll enc Try.prog W 0 (fun _ => true) true Try.f3.params.toList args.toList ds p := hA0
  rw [Try.params3] at hA hval
  obtain ⟨v0, d0, rfl, rfl, h0⟩ := trodAll_one hA
  obtain ⟨n, rfl, rfl, rfl, wn⟩ := open_int Try.underlying3 (hval 0 3 v0 rfl rfl) h0
  refine (walk n W).mono fun e W' ⟨he, hb⟩ => ⟨_, he, law_post laidOut hW' hb rfl (by kernel_rfl) Try.underlying4 (by kernel_rfl) rfl⟩

theorem over : Rows.fnExactSizeOkRow.holds Try.pinned (OpenSpec.ofChange Rows.fnExactSizeOkSpec) :=
  OpenClaim.holds_of_wide 3 Try.f3 rfl rfl rfl rfl rfl rfl rfl ⟨rfl, rfl, rfl, rfl, rfl⟩ rfl rfl rfl rfl rfl (by kernel_rfl) Try.func3 (by kernel_rfl)
    (of_decide_eq_true (by kernel_rfl)) (by unfold Func.isWrapper; first | (rw [if_pos (by decide +kernel)]; kernel_rfl) | (rw [if_neg (by decide +kernel)]; exact ⟨rfl, rfl⟩))
    (fun os started H enc _ => lifted os started H enc)

theorem proved : Rows.FnExactSizeOkSaid :=
  over
end Go.Proofs.Ytebcelebhlmfoaa.fnExactSizeOk
