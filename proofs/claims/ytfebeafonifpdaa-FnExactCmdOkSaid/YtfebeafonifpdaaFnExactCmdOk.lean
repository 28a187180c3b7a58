/-
  Proved here: for whatever command, CmdOk of the program answers as CmdOk of the model. No condition.
-/
import Derived.Test.YtfebeafonifpdaaRows
import Derived.Test.YtfebeafonifpdaaDoor
import Derived.Test.YtfebeafonifpdaaStM
set_option linter.unusedVariables false
set_option maxRecDepth 100000
namespace Go.Proofs.Ytfebeafonifpdaa.fnExactCmdOk
open Go.RowKit Go.ChangeShapes Go.WideShapes Go.Proofs.Ytfebeafonifpdaa.B Go.Proofs.Ytfebeafonifpdaa.V

set_option maxHeartbeats 1600000 in
theorem walk0 (k y n : Int) (r0 : Bool) (w : World) (hsp : (∀ (W : World), Calls Try.prog 21 #[.agg #[.int .i64 k, .int .i64 y, .int .i64 n]] W fun e w' => e = .returned (.bool r0) ∧ Below W.heap.size W w')) (him : (∀ (W : World), Calls Try.prog 22 #[.agg #[.int .i64 k, .int .i64 y, .int .i64 n]] W fun e w' => e = .returned (.bool r0) ∧ Below W.heap.size W w')) :
    Calls Try.prog 7 #[.agg #[.int .i64 k, .int .i64 y, .int .i64 n]] w fun e w' => e = .returned (.bool true) ∧ Below w.heap.size w w' := by
  have hne : (r0 != r0) = false := by simp
  have HSP := Lib.hid hsp; clear hsp
  have HIM := Lib.hid him; clear him
  have hkm := Blk.new w 56 #[.int .i64 k, .int .i64 y, .int .i64 n]
  go_enter Try.func7, Try.ntmps7
  go_wp2_with fail
  refine (toCmd_any k y n _).mono ?_
  rintro e w1 ⟨rfl, hb1⟩
  have km1 := hkm.on hb1
  have hB1 := on_ (up_ (Below.refl w.heap.size w) _) hb1
  clear hkm hb1
  have rm1 := km1.rule
  have zm1 := km1.lt
  go_wp2_with fail
  refine (HSP.out _).mono ?_
  rintro e w2 ⟨rfl, hb2⟩
  have km2 : Blk w2 _ _ _ := Blk.on km1 hb2
  have hB2 := on_ hB1 hb2
  clear rm1 zm1
  clear km1 hB1
  clear hb2
  have rm2 := km2.rule
  have zm2 := km2.lt
  go_wp2_with fail
  refine (toCmd_any k y n _).mono ?_
  rintro e w3 ⟨rfl, hb3⟩
  have km3 : Blk w3 _ _ _ := Blk.on km2 hb3
  have hB3 := on_ hB2 hb3
  clear rm2 zm2
  clear km2 hB2
  clear hb3
  have rm3 := km3.rule
  have zm3 := km3.lt
  go_wp2_with fail
  refine (HIM.out _).mono ?_
  rintro e w4 ⟨rfl, hb4⟩
  have km4 : Blk w4 _ _ _ := Blk.on km3 hb4
  have hB4 := on_ hB3 hb4
  clear rm3 zm3
  clear km3 hB3
  clear hb4
  have rm4 := km4.rule
  have zm4 := km4.lt
  go_wp2
  go_ret
  exact ⟨rfl, hB4⟩
theorem walk (k y n : Int) (w : World) : Calls Try.prog 7 #[.agg #[.int .i64 k, .int .i64 y, .int .i64 n]] w fun e w' => e = .returned (.bool true) ∧ Below w.heap.size w w' :=
  walk0 k y n (cmdB k y n) w (fun W => specCmdOk_any k y n W) (fun W => implCmdOk_any k y n W)

theorem closed : joinedFacts Try.prog 7 Try.f7 Rows.fnExactCmdOkSpec Rows.fnExactCmdOkRow = true := by
  unfold joinedFacts
  rw [D.make_is, D.enter_is, D.final_is]
  kernel_rfl

set_option maxRecDepth 100000 in
theorem lifted (os : Os) (started : os.Started) (H : Type) (enc : TypeId × Value → H) :
    ReturnsInHanded {} Try.checked os 7 .any (Rows.fnExactCmdOkSpec.pre6 enc Try.prog Try.f7 Rows.fnExactCmdOkRow.domain false) (Rows.fnExactCmdOkSpec.post enc Try.prog Try.f7 false true false false) := by
  refine returnsInHanded_of_change (C := Try.checked) D.own started (by kernel_rfl) Try.func7
    (ChangeSpec.witness6 (enc := enc) (C := Try.checked) false ⟨#[], #[.agg #[.int .i64 0, .int .i64 0, .int .i64 0]], []⟩ 8 (by kernel_rfl) (by kernel_rfl) (by kernel_rfl) (by kernel_rfl)) ?_
  intro W base args ds gs before hval0 hW hcnd _
  have hval : ∀ (j : Nat) t v, Try.f7.params[j]? = some t → args[j]? = some v → Value.okWide Try.prog W .any base t v := hval0
  have hW' := hW
  obtain ⟨p, q, hA0, hV, rfl, hfz, hnd⟩ := hW
  have hA : DataW.TrodAll enc Try.prog W 0 (fun _ => true) true Try.f7.params.toList args.toList ds p := hA0
  rw [Try.params7] at hA hval
  obtain ⟨v0, d0, rfl, rfl, h0⟩ := trodAll_one hA
  obtain ⟨cs0, rfl, hsz0⟩ := okWide_struct Try.underlying56 (hval 0 56 v0 rfl rfl)
  obtain ⟨fuel0, hf0⟩ := h0
  obtain ⟨am, bm, cm, hcs0⟩ := open_cmd hf0
  obtain rfl : cs0 = #[.int .i64 am, .int .i64 bm, .int .i64 cm] := by
    obtain ⟨l⟩ := cs0
    simpa [Value.cells] using hcs0
  refine (walk am bm cm W).mono fun e W' ⟨he, hb⟩ => ⟨_, he, law_post D.laidOut hW' hb rfl (by kernel_rfl) Try.underlying4 (by kernel_rfl) rfl⟩

theorem over : Rows.fnExactCmdOkRow.holds Try.pinned (OpenSpec.ofChange Rows.fnExactCmdOkSpec) :=
  OpenClaim.holds_of_wide 7 Try.f7 rfl rfl rfl rfl rfl rfl rfl ⟨rfl, rfl, rfl, rfl, rfl⟩ rfl rfl rfl rfl rfl (by kernel_rfl) Try.func7 closed
    (of_decide_eq_true (by kernel_rfl)) (by unfold Func.isWrapper; first | (rw [if_pos (by decide +kernel)]; kernel_rfl) | (rw [if_neg (by decide +kernel)]; exact ⟨rfl, rfl⟩))
    (fun os started H enc _ => lifted os started H enc)

theorem proved : Rows.FnExactCmdOkSaid :=
  over
end Go.Proofs.Ytfebeafonifpdaa.fnExactCmdOk
