/-
  Proved here: for whatever number, ValCmd of the program answers as ValCmd of the model. No condition.
-/
import Derived.Test.YtfebeafonifpdaaRows
import Derived.Test.YtfebeafonifpdaaDoor
import Derived.Test.YtfebeafonifpdaaStM
set_option linter.unusedVariables false
set_option maxRecDepth 100000
namespace Go.Proofs.Ytfebeafonifpdaa.fnExactValCmd
open Go.RowKit Go.ChangeShapes Go.WideShapes Go.Proofs.Ytfebeafonifpdaa.B Go.Proofs.Ytfebeafonifpdaa.V

set_option maxHeartbeats 1600000 in
theorem walk0 (v k y n : Int) (r0 : Bool) (w : World) (hsp : (∀ (W : World), Calls Try.prog 38 #[.int .i64 v] W fun e w' => e = .returned (.tuple #[.agg #[.int .i64 k, .int .i64 y, .int .i64 n], .bool r0]) ∧ Below W.heap.size W w')) (him : (∀ (W : World), Calls Try.prog 20 #[.int .i64 v] W fun e w' => e = .returned (.tuple #[.agg #[.int .i64 k, .int .i64 y, .int .i64 n], .bool r0]) ∧ Below W.heap.size W w')) :
    Calls Try.prog 9 #[.int .i64 v] w fun e w' => e = .returned (.bool true) ∧ Below w.heap.size w w' := by
  have hne : (r0 != r0) = false := by simp
  have HSP := Lib.hid hsp; clear hsp
  have HIM := Lib.hid him; clear him
  go_enter Try.func9, Try.ntmps9
  go_wp2_with fail
  refine (HSP.out _).mono ?_
  rintro e w1 ⟨rfl, hb1⟩
  have hB1 := on_ (Below.refl w.heap.size w) hb1
  clear hb1
  have ks2 := Blk.new w1 24 #[.int .i64 k, .int .i64 y, .int .i64 n]
  have hB2 := up_ hB1 (.cells #[.int .i64 k, .int .i64 y, .int .i64 n] 24)
  have hsz2 : (w1.alloc (.cells #[.int .i64 k, .int .i64 y, .int .i64 n] 24)).heap.size = w1.heap.size + 1 := World.size_alloc _ _
  clear hB1
  go_wp2_with fail
  generalize w1.alloc (.cells #[.int .i64 k, .int .i64 y, .int .i64 n] 24) = w2 at *
  have rs2 := ks2.rule
  have zs2 := ks2.lt
  clear hsz2
  refine (HIM.out _).mono ?_
  rintro e w3 ⟨rfl, hb3⟩
  have ks3 : Blk w3 _ _ _ := Blk.on ks2 hb3
  have hB3 := on_ hB2 hb3
  clear rs2 zs2
  clear ks2 hB2
  clear hb3
  have rs3 := ks3.rule
  have zs3 := ks3.lt
  have kg4 := Blk.new w3 24 #[.int .i64 k, .int .i64 y, .int .i64 n]
  have ks4 := Blk.alloc ks3 (.cells #[.int .i64 k, .int .i64 y, .int .i64 n] 24)
  have hB4 := up_ hB3 (.cells #[.int .i64 k, .int .i64 y, .int .i64 n] 24)
  have hsz4 : (w3.alloc (.cells #[.int .i64 k, .int .i64 y, .int .i64 n] 24)).heap.size = w3.heap.size + 1 := World.size_alloc _ _
  clear ks3 hB3
  clear rs3 zs3
  have rrs := ks4.rule
  go_wp2_with fail
  generalize w3.alloc (.cells #[.int .i64 k, .int .i64 y, .int .i64 n] 24) = w4 at *
  clear rrs
  have rs4 := ks4.rule
  have zs4 := ks4.lt
  have rg4 := kg4.rule
  have zg4 := kg4.lt
  clear hsz4
  refine (eqCmd_same k y n _).mono ?_
  rintro e w5 ⟨rfl, hb5⟩
  have ks5 : Blk w5 _ _ _ := Blk.on ks4 hb5
  have kg5 : Blk w5 _ _ _ := Blk.on kg4 hb5
  have hB5 := on_ hB4 hb5
  clear rs4 zs4 rg4 zg4
  clear ks4 kg4 hB4
  clear hb5
  have rs5 := ks5.rule
  have zs5 := ks5.lt
  have rg5 := kg5.rule
  have zg5 := kg5.lt
  go_wp2
  go_ret
  exact ⟨rfl, hB5⟩
theorem walk (v : Int) (w : World) : Calls Try.prog 9 #[.int .i64 v] w fun e w' => e = .returned (.bool true) ∧ Below w.heap.size w w' :=
  walk0 v _ _ _ _ w (fun W => specValCmd_any v W) (fun W => implValCmd_any v W)

theorem closed : joinedFacts Try.prog 9 Try.f9 Rows.fnExactValCmdSpec Rows.fnExactValCmdRow = true := by
  unfold joinedFacts
  rw [D.make_is, D.enter_is, D.final_is]
  kernel_rfl

set_option maxRecDepth 100000 in
theorem lifted (os : Os) (started : os.Started) (H : Type) (enc : TypeId × Value → H) :
    ReturnsInHanded {} Try.checked os 9 .any (Rows.fnExactValCmdSpec.pre6 enc Try.prog Try.f9 Rows.fnExactValCmdRow.domain false) (Rows.fnExactValCmdSpec.post enc Try.prog Try.f9 false true false false) := by
  refine returnsInHanded_of_change (C := Try.checked) D.own started (by kernel_rfl) Try.func9
    (ChangeSpec.witness6 (enc := enc) (C := Try.checked) false ⟨#[], #[.int .i64 0], []⟩ 8 (by kernel_rfl) (by kernel_rfl) (by kernel_rfl) (by kernel_rfl)) ?_
  intro W base args ds gs before hval0 hW hcnd _
  have hval : ∀ (j : Nat) t v, Try.f9.params[j]? = some t → args[j]? = some v → Value.okWide Try.prog W .any base t v := hval0
  have hW' := hW
  obtain ⟨p, q, hA0, hV, rfl, hfz, hnd⟩ := hW
  have hA : DataW.TrodAll enc Try.prog W 0 (fun _ => true) true Try.f9.params.toList args.toList ds p := hA0
  rw [Try.params9] at hA hval
  obtain ⟨v0, d0, rfl, rfl, h0⟩ := trodAll_one hA
  obtain ⟨v, rfl, rfl, rfl, wv⟩ := open_int Try.underlying3 (hval 0 3 v0 rfl rfl) h0
  refine (walk v W).mono fun e W' ⟨he, hb⟩ => ⟨_, he, law_post D.laidOut hW' hb rfl (by kernel_rfl) Try.underlying4 (by kernel_rfl) rfl⟩

theorem over : Rows.fnExactValCmdRow.holds Try.pinned (OpenSpec.ofChange Rows.fnExactValCmdSpec) :=
  OpenClaim.holds_of_wide 9 Try.f9 rfl rfl rfl rfl rfl rfl rfl ⟨rfl, rfl, rfl, rfl, rfl⟩ rfl rfl rfl rfl rfl (by kernel_rfl) Try.func9 closed
    (of_decide_eq_true (by kernel_rfl)) (by unfold Func.isWrapper; first | (rw [if_pos (by decide +kernel)]; kernel_rfl) | (rw [if_neg (by decide +kernel)]; exact ⟨rfl, rfl⟩))
    (fun os started H enc _ => lifted os started H enc)

theorem proved : Rows.FnExactValCmdSaid :=
  over
end Go.Proofs.Ytfebeafonifpdaa.fnExactValCmd
