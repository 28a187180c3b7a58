/-
  Proved here: for whatever command, CmdText of the program answers as CmdText of the model, and its answer owns its memory. No condition.
-/
import Derived.Test.YtfebeafonifpdaaDoorRows
import Derived.Test.YtfebeafonifpdaaDoorCards
import Derived.Test.YtfebeafonifpdaaDoorTie
import Derived.Test.YtfebeafonifpdaaDoorDoor
import Derived.Test.YtfebeafonifpdaaDoorCmdP
import Derived.Test.YtfebeafonifpdaaDoorLift
import Derived.SevenTiedAt
import Derived.OpenShut
import Derived.LaidMore
import Derived.Lay
import Derived.Stop.Joined
set_option linter.unusedVariables false
set_option maxRecDepth 100000
namespace Go.Proofs.YtfebeafonifpdaaDoor.fnExactCmdText
open Go.RowKit Go.ChangeShapes Go.WideShapes Go.Proofs.YtfebeafonifpdaaDoor.B Go.Proofs.YtfebeafonifpdaaDoor.V
theorem rd8_grown {w w' : World} {g p : Nat} {bs : List Int} (h : Rd8 w (some ⟨g, 0, none⟩) bs) (hg : w.grownBy w' (some p)) (hne : g ≠ p) : Rd8 w' (some ⟨g, 0, none⟩) bs := fun h0 => by
  obtain ⟨g', e, hlt, hc⟩ := h h0
  injection e with e
  injection e with e
  subst e
  exact ⟨g, rfl, by have := hg.size; omega, fun j hj => (World.cell?_of_block (a := ⟨g, j, none⟩) (hg.block g hlt (fun e => by injection e with e; exact hne e))).trans (hc j hj)⟩
theorem markNil (A : Option Addr) (c : Nat) (k : Int) (w : World) : Calls Tryd.prog 17 #[.slice A 0 c, .int .i64 k] w fun e w' => e = .returned (.int .i64 k) ∧ w' = w := by
  go_enter Tryd.func17, Tryd.ntmps17
  go_wp2
  refine wp_loop_rounds 1 ?_
  rw [rounds_succ]
  go_wp2
  go_ret
  exact ⟨rfl, rfl⟩
theorem heldNil (A : Option Addr) (c : Nat) (k : Int) (w : World) : Calls Tryd.prog 18 #[.slice A 0 c, .int .i64 k] w fun e w' => e = .returned (.int .i64 k) ∧ w' = w := by
  go_enter Tryd.func18, Tryd.ntmps18
  go_wp2
  refine wp_loop_rounds 1 ?_
  rw [rounds_succ]
  go_wp2
  go_ret
  exact ⟨rfl, rfl⟩
theorem specNo (k y n : Int) (hq : cmdB k y n = false) (w : World) : Calls Tryd.prog 14 #[.agg #[.int .i64 k, .int .i64 y, .int .i64 n]] w fun e w' => e = .returned (.slice none 0 0) ∧ Below w.heap.size w w' := by
  go_enter Tryd.func14, Tryd.ntmps14
  go_wp2_with fail
  refine (specCmdOk_is false k y n hq _).mono ?_
  rintro e w1 ⟨rfl, hb1⟩
  go_wp2
  go_ret
  exact ⟨rfl, on_ (up_ (Below.refl _ _) _) hb1⟩
theorem implNo (k y n : Int) (hq : cmdB k y n = false) (w : World) : Calls Tryd.prog 13 #[.agg #[.int .i64 k, .int .i64 y, .int .i64 n]] w fun e w' => e = .returned (.slice none 0 0) ∧ Below w.heap.size w w' := by
  go_enter Tryd.func13, Tryd.ntmps13
  go_wp2_with fail
  refine (implCmdOk_is false k y n hq _).mono ?_
  rintro e w1 ⟨rfl, hb1⟩
  go_wp2
  go_ret
  exact ⟨rfl, on_ (up_ (Below.refl _ _) _) hb1⟩
set_option maxHeartbeats 3200000 in
theorem walkY (k y n : Int) (bs : List Int) (hl : bs.length ≤ 10) (w : World)
    (hsp : ∀ W : World, Calls Tryd.prog 14 #[.agg #[.int .i64 k, .int .i64 y, .int .i64 n]] W (TX bs W)) (him : ∀ W : World, Calls Tryd.prog 13 #[.agg #[.int .i64 k, .int .i64 y, .int .i64 n]] W (TX bs W)) :
    Calls Tryd.prog 4 #[.agg #[.int .i64 k, .int .i64 y, .int .i64 n]] w fun e w' => e = .returned (.bool true) ∧ Below w.heap.size w w' := by
  have HSP := Lib.hid hsp; have HIM := Lib.hid him
  have hne : ((1 + (bs.length : Int)) != (1 + (bs.length : Int))) = false := by simp
  clear hsp him
  have km0 := Blk.new w 40 #[.int .i64 k, .int .i64 y, .int .i64 n]
  have hB0 := up_ (Below.refl w.heap.size w) (.cells #[.int .i64 k, .int .i64 y, .int .i64 n] 40)
  have rm0 := km0.rule
  go_enter Tryd.func4, Tryd.ntmps4
  go_wp2_with fail
  refine (toCmd_any k y n _).mono ?_
  rintro e w1 ⟨rfl, hb1⟩
  have km1 := km0.on hb1
  have hB1 := on_ hB0 hb1
  have hz1 := hb1.size
  clear km0 hB0 rm0 hb1 
  have rm1 := km1.rule
  have hzm : w.heap.size < w1.heap.size := km1.lt
  go_wp2_with fail
  refine (HSP.out _).mono ?_
  rintro e w2 ⟨ga, ca, rfl, hga, hca, hb2⟩
  have km2 := km1.on hb2
  have hB2 := on_ hB1 hb2
  have hz2 := hb2.size
  clear km1 hB1 rm1 hb2 
  have rm2 := km2.rule
  have HA2 := Lib.hid (Rd8.of hca)
  have hla2 := hca.lt
  clear hca
  go_wp2_with fail
  refine (toCmd_any k y n _).mono ?_
  rintro e w3 ⟨rfl, hb3⟩
  have km3 := km2.on hb3
  have hB3 := on_ hB2 hb3
  have hz3 := hb3.size
  have HA3 := Lib.hid (HA2.out.on hb3)
  clear km2 hB2 rm2 hb3 HA2
  have rm3 := km3.rule
  go_wp2_with fail
  refine (HIM.out _).mono ?_
  rintro e w4 ⟨gb, cb, rfl, hgb, hcb, hb4⟩
  have km4 := km3.on hb4
  have hB4 := on_ hB3 hb4
  have hz4 := hb4.size
  have HA4 := Lib.hid (HA3.out.on hb4)
  clear km3 hB3 rm3 hb4 HA3
  have rm4 := km4.rule
  have HB4 := Lib.hid hcb
  clear hcb
  go_wp2_with fail
  refine (eqByteS_same (some ⟨gb, 0, none⟩) (some ⟨ga, 0, none⟩) cb ca bs w4 (Rd8.of HB4.out) HA4.out (by omega)).mono ?_
  rintro e w5 ⟨rfl, hb5⟩
  have km5 := km4.on hb5
  have hB5 := on_ hB4 hb5
  have hz5 := hb5.size
  have HA5 := Lib.hid (HA4.out.on hb5)
  have HB5 := Lib.hid (HB4.out.on hb5)
  clear km4 hB4 rm4 hb5 HA4 HB4
  have rm5 := km5.rule
  have hgb9 : w3.heap.size ≤ gb := hgb
  have hgab : ga ≠ gb := by omega
  have hgb0 : gb ≠ w.heap.size := by have : w.heap.size < w1.heap.size := hzm; omega
  have hgb1 : w.heap.size ≤ gb := by have : w.heap.size < w1.heap.size := hzm; omega
  go_wp2_with fail
  refine (markByteS_any gb cb bs 1 w5 HB5.out (by omega) (by omega)).mono ?_
  rintro e w6 ⟨rfl, hc6, hg6⟩
  have HC6 := Lib.hid hc6
  have HA6 := Lib.hid (rd8_grown HA5.out hg6 hgab)
  have km6 := keepK km5 hg6 (fun e => by injection e with e; exact hgb0 e)
  have hB6 := growB hg6 hB5 hgb1
  have hz6 := hg6.size
  clear hc6 hg6 HA5 HB5 km5 hB5 rm5
  have rm6 := km6.rule
  go_wp2_with fail
  refine (heldByteS_any gb cb bs 1 w6 HC6.out (by omega) (by omega)).mono ?_
  rintro e w7 ⟨rfl, hb7⟩
  have km7 := km6.on hb7
  have hB7 := on_ hB6 hb7
  have hz7 := hb7.size
  have HA7 := Lib.hid (HA6.out.on hb7)
  have HC7 := Lib.hid (HC6.out.on hb7)
  clear km6 hB6 rm6 hb7 HA6 HC6
  have rm7 := km7.rule
  go_wp2_with fail
  refine (toCmd_any k y n _).mono ?_
  rintro e w8 ⟨rfl, hb8⟩
  have km8 := km7.on hb8
  have hB8 := on_ hB7 hb8
  have hz8 := hb8.size
  have HA8 := Lib.hid (HA7.out.on hb8)
  have HC8 := Lib.hid (HC7.out.on hb8)
  clear km7 hB7 rm7 hb8 HA7 HC7
  have rm8 := km8.rule
  go_wp2_with fail
  refine (HIM.out _).mono ?_
  rintro e w9 ⟨gc, cc, rfl, hgc, hcc, hb9⟩
  have km9 := km8.on hb9
  have hB9 := on_ hB8 hb9
  have hz9 := hb9.size
  have HA9 := Lib.hid (HA8.out.on hb9)
  have HC9 := Lib.hid (HC8.out.on hb9)
  clear km8 hB8 rm8 hb9 HA8 HC8
  have rm9 := km9.rule
  have HD9 := Lib.hid (Rd8.of hcc)
  clear hcc
  go_wp2_with fail
  refine (eqByteS_same (some ⟨gc, 0, none⟩) (some ⟨ga, 0, none⟩) cc ca bs w9 HD9.out HA9.out (by omega)).mono ?_
  rintro e w10 ⟨rfl, hb10⟩
  have km10 := km9.on hb10
  have hB10 := on_ hB9 hb10
  have hz10 := hb10.size
  have HA10 := Lib.hid (HA9.out.on hb10)
  have HC10 := Lib.hid (HC9.out.on hb10)
  clear km9 hB9 rm9 hb10 HA9 HC9
  have rm10 := km10.rule
  go_wp2_with fail
  refine (heldByteS_any gb cb bs 1 w10 HC10.out (by omega) (by omega)).mono ?_
  rintro e w11 ⟨rfl, hb11⟩
  have km11 := km10.on hb11
  have hB11 := on_ hB10 hb11
  have hz11 := hb11.size
  have HA11 := Lib.hid (HA10.out.on hb11)
  have HC11 := Lib.hid (HC10.out.on hb11)
  clear km10 hB10 rm10 hb11 HA10 HC10
  have rm11 := km11.rule
  go_wp2
  go_ret
  exact ⟨rfl, hB11⟩
set_option maxHeartbeats 3200000 in
theorem walkN (k y n : Int) (hq : cmdB k y n = false) (w : World) : Calls Tryd.prog 4 #[.agg #[.int .i64 k, .int .i64 y, .int .i64 n]] w fun e w' => e = .returned (.bool true) ∧ Below w.heap.size w w' := by
  have HSP := Lib.hid (specNo k y n hq); have HIM := Lib.hid (implNo k y n hq)
  clear hq
  have km0 := Blk.new w 40 #[.int .i64 k, .int .i64 y, .int .i64 n]
  have hB0 := up_ (Below.refl w.heap.size w) (.cells #[.int .i64 k, .int .i64 y, .int .i64 n] 40)
  have rm0 := km0.rule
  go_enter Tryd.func4, Tryd.ntmps4
  go_wp2_with fail
  refine (toCmd_any k y n _).mono ?_
  rintro e w1 ⟨rfl, hb1⟩
  have km1 := km0.on hb1
  have hB1 := on_ hB0 hb1
  have hz1 := hb1.size
  clear km0 hB0 rm0 hb1 
  have rm1 := km1.rule
  go_wp2_with fail
  refine (HSP.out _).mono ?_
  rintro e w2 ⟨rfl, hb2⟩
  have km2 := km1.on hb2
  have hB2 := on_ hB1 hb2
  have hz2 := hb2.size
  clear km1 hB1 rm1 hb2 
  have rm2 := km2.rule
  go_wp2_with fail
  refine (toCmd_any k y n _).mono ?_
  rintro e w3 ⟨rfl, hb3⟩
  have km3 := km2.on hb3
  have hB3 := on_ hB2 hb3
  have hz3 := hb3.size
  clear km2 hB2 rm2 hb3 
  have rm3 := km3.rule
  go_wp2_with fail
  refine (HIM.out _).mono ?_
  rintro e w4 ⟨rfl, hb4⟩
  have km4 := km3.on hb4
  have hB4 := on_ hB3 hb4
  have hz4 := hb4.size
  clear km3 hB3 rm3 hb4 
  have rm4 := km4.rule
  go_wp2_with fail
  refine (eqByteS_same none none 0 0 [] w4 (fun h => absurd h (by simp)) (fun h => absurd h (by simp)) (by simp)).mono ?_
  rintro e w5 ⟨rfl, hb5⟩
  have km5 := km4.on hb5
  have hB5 := on_ hB4 hb5
  have hz5 := hb5.size
  clear km4 hB4 rm4 hb5 
  have rm5 := km5.rule
  go_wp2_with fail
  refine (markNil none 0 1 w5).mono ?_
  rintro e w6 ⟨rfl, h9⟩; obtain rfl := h9.symm
  go_wp2_with fail
  refine (heldNil none 0 1 w5).mono ?_
  rintro e w6 ⟨rfl, h9⟩; obtain rfl := h9.symm
  go_wp2_with fail
  refine (toCmd_any k y n _).mono ?_
  rintro e w8 ⟨rfl, hb8⟩
  have km8 := km5.on hb8
  have hB8 := on_ hB5 hb8
  have hz8 := hb8.size
  clear km5 hB5 rm5 hb8 
  have rm8 := km8.rule
  go_wp2_with fail
  refine (HIM.out _).mono ?_
  rintro e w9 ⟨rfl, hb9⟩
  have km9 := km8.on hb9
  have hB9 := on_ hB8 hb9
  have hz9 := hb9.size
  clear km8 hB8 rm8 hb9 
  have rm9 := km9.rule
  go_wp2_with fail
  refine (eqByteS_same none none 0 0 [] w9 (fun h => absurd h (by simp)) (fun h => absurd h (by simp)) (by simp)).mono ?_
  rintro e w10 ⟨rfl, hb10⟩
  have km10 := km9.on hb10
  have hB10 := on_ hB9 hb10
  have hz10 := hb10.size
  clear km9 hB9 rm9 hb10 
  have rm10 := km10.rule
  go_wp2_with fail
  refine (heldNil none 0 1 w10).mono ?_
  rintro e w11 ⟨rfl, h9⟩; obtain rfl := h9.symm
  go_wp2
  go_ret
  exact ⟨rfl, hB10⟩
theorem walk (k y n : Int) (w : World) : Calls Tryd.prog 4 #[.agg #[.int .i64 k, .int .i64 y, .int .i64 n]] w fun e w' => e = .returned (.bool true) ∧ Below w.heap.size w w' := by
  rcases hq : cmdB k y n with _ | _
  · exact walkN k y n hq w
  · obtain ⟨h1, h2, h3, h4, h5, h6, h7⟩ := cmdB_yes hq
    obtain ⟨b, rfl⟩ : ∃ b : Nat, y = b := ⟨y.toNat, by omega⟩
    obtain ⟨c, rfl⟩ : ∃ c : Nat, n = c := ⟨n.toNat, by omega⟩
    rcases (by omega : k = 0 ∨ k = 1 ∨ k = 2) with rfl | rfl | rfl
    · obtain rfl : c = 0 := by have := h7 rfl; omega
      exact walkY 0 b _ (cmdT 0 b 0) (by simp [cmdT, cmdW]) w (fun W => specCT0 b (by omega) W) (fun W => implCT0 b (by omega) W)
    · exact walkY 1 b c (cmdT 1 b c) (by simp [cmdT, cmdW]) w (fun W => specCT1 b c (by omega) (by omega) W) (fun W => implCT1 b c (by omega) (by omega) W)
    · exact walkY 2 b c (cmdT 2 b c) (by simp [cmdT, cmdW]) w (fun W => specCT2 b c (by omega) (by omega) W) (fun W => implCT2 b c (by omega) (by omega) W)

theorem closed : joinedFacts Tryd.prog 4 Tryd.f4 Rows.fnExactCmdTextSpec Rows.fnExactCmdTextRow = true := by
  unfold joinedFacts
  rw [D.make_is, D.enter_is, D.final_is]
  kernel_rfl

set_option maxRecDepth 100000 in
theorem lifted (os : Os) (started : os.Started) (H : Type) (enc : TypeId × Value → H) :
    ReturnsInHanded {} Tryd.checked os 4 .any (fun w args => (Rows.fnExactCmdTextSpec.pre enc Tryd.prog Tryd.f4 Rows.fnExactCmdTextRow.domain false w args ∧ laidMetH Tryd.prog Rows.fnExactCmdTextRow.laid w) ∧ sizedMet enc Tryd.prog Tryd.f4 (OpenSpec.ofChange Rows.fnExactCmdTextSpec) false w args)
      (Rows.fnExactCmdTextSpec.post enc Tryd.prog Tryd.f4 false true false false) := by
  refine returnsInHanded_of_change_and (C := Tryd.checked) (X := fun w _ => laidMetH Tryd.prog Rows.fnExactCmdTextRow.laid w) (fun _ _ _ hh h => h.of_heap hh) D.own started (by kernel_rfl) Tryd.func4
    (ChangeSpec.witness_shaped (enc := enc) (C := Tryd.checked) (os := os) (X := fun w _ => laidMetH Tryd.prog Rows.fnExactCmdTextRow.laid w) false (World.laidAll Tryd.prog os Rows.fnExactCmdTextRow.laid) #[.agg #[.int .i64 0, .int .i64 0, .int .i64 0]] 8 (World.laidAll_os _ _ _)
      (World.shaped_of_ZipB (by kernel_rfl) (by kernel_rfl)) (by kernel_rfl) (by kernel_rfl) (by kernel_rfl)
      (by rw [MakeChecks.laidMetH_plain _ _ _ (by kernel_rfl)]; exact laidMet_laidAll _ (by kernel_rfl) (by kernel_rfl))) ?_
  intro W base args ds gs before hval0 hW hcnd _ hL _
  have hval : ∀ (j : Nat) t v, Tryd.f4.params[j]? = some t → args[j]? = some v → Value.okWide Tryd.prog W .any base t v := hval0
  have hW' := hW
  obtain ⟨p, q, hA0, hV, rfl, hfz, hnd⟩ := hW
  have hA : DataW.TrodAll enc Tryd.prog W 0 (fun _ => true) true Tryd.f4.params.toList args.toList ds p := hA0
  rw [Tryd.params4] at hA hval
  obtain ⟨v0, d0, rfl, rfl, h0⟩ := trodAll_one hA
  obtain ⟨cs0, rfl, hsz0⟩ := okWide_struct Tryd.underlying40 (hval 0 40 v0 rfl rfl)
  obtain ⟨fuel0, hf0⟩ := h0
  obtain ⟨am, bm, cm, hcs0⟩ := open_cmd hf0
  obtain rfl : cs0 = #[.int .i64 am, .int .i64 bm, .int .i64 cm] := by
    obtain ⟨l⟩ := cs0
    simpa [Value.cells] using hcs0
  refine (walk am bm cm W).mono fun e W' ⟨he, hb⟩ => ⟨_, he, law_post D.laidOut hW' hb rfl (by kernel_rfl) Tryd.underlying4 (by kernel_rfl) rfl⟩

theorem over : Rows.fnExactCmdTextRow.holds Tryd.pinned (OpenSpec.ofChange Rows.fnExactCmdTextSpec) :=
  OpenClaim.holds_of_wide 4 Tryd.f4 rfl rfl rfl rfl rfl rfl rfl ⟨rfl, rfl, rfl, rfl, rfl⟩ rfl rfl rfl rfl rfl (by kernel_rfl) Tryd.func4 closed
    (of_decide_eq_true (by kernel_rfl)) (by unfold Func.isWrapper; first | (rw [if_pos (by decide +kernel)]; kernel_rfl) | (rw [if_neg (by decide +kernel)]; exact ⟨rfl, rfl⟩))
    (fun os started H enc _ => lifted os started H enc)

theorem proved : Rows.FnExactCmdTextCardSaid :=
  Claim7.holds_tied_plain_at .later [] [.data, .data, .data] true Rows.fnExactCmdTextCard.stood.harness false over (fun _ h => by cases h) (by kernel_rfl) (fun _ h => by cases h) fnExactCmdText_row_tie rfl ⟨rfl, rfl⟩ (by kernel_rfl) rfl
    (fun f fn hf hfn => by
      obtain rfl : f = 4 := Option.some.inj ((show Tryd.prog.funcNamed "loop.example/g00567/laws.FnExactCmdText" = some 4 by kernel_rfl).symm.trans hf) |>.symm
      obtain rfl : fn = Tryd.f4 := (Option.some.inj (Tryd.func4.symm.trans hfn)).symm
      exact ⟨by kernel_rfl, fun j t ht => by
        rw [Tryd.params4] at ht
        have hall : (∀ u ∈ Tryd.f4.params.toList, Tryd.prog.wantsStandIn u = false) := by rw [Tryd.params4]; simp only [List.mem_cons, List.not_mem_nil, or_false]; rintro u rfl; kernel_rfl
        rw [Tryd.params4] at hall
        exact hall t (by simpa using Array.mem_of_getElem? ht)⟩)
    (by kernel_rfl)
end Go.Proofs.YtfebeafonifpdaaDoor.fnExactCmdText
