/-
  Proved here: for whatever bytes of a draw, the law FnBares (a bare message has the given kind, view and value and is no report) answers true. No condition.
-/
import Derived.Test.YtaegcdbgnjlbdaaRows
import Derived.Test.YtaegcdbgnjlbdaaDoor
import Derived.Test.YtaegcdbgnjlbdaaWires
import Derived.Test.YtaegcdbgnjlbdaaPick0
import Derived.Test.YtaegcdbgnjlbdaaBare
import Derived.Test.YtaegcdbgnjlbdaaBoundTo
import Derived.Test.YtaegcdbgnjlbdaaLift
set_option linter.unusedVariables false
set_option maxRecDepth 100000
namespace Go.Proofs.Ytaegcdbgnjlbdaa.fnBares
open Go.RowKit Go.ChangeShapes Go.WideShapes Go.Proofs.Ytaegcdbgnjlbdaa.B Go.Proofs.Ytaegcdbgnjlbdaa.V

set_option maxHeartbeats 800000 in
theorem drawBare_any (A : Option Addr) (n c : Nat) (hm : n ≤ maxLen) (w : World) (hr : RdC w w.heap.size A n) :
    Calls Try.prog 15 #[.slice A n c] w fun e w' => ∃ k v x : Int, -1 ≤ k ∧ k ≤ 6 ∧ -1 ≤ v ∧ v ≤ 10 ∧ 0 ≤ x ∧ x ≤ 61 ∧ e = .returned (.tuple #[.int .i64 k, .int .i64 v, .int .i64 x]) ∧ Below w.heap.size w w' := by
  go_enter Try.func15, Try.ntmps15
  go_wp2_with fail
  refine (new_any A n c hm w hr).mono ?_
  rintro e w1 ⟨p, rfl, hc1, hb1⟩
  have hp1 := cur_lt hc1
  clear hr
  go_wp2_with fail
  refine (below_i w.heap.size p 7 (by omega) (by omega) _ hc1).mono ?_
  rintro e w2 ⟨a, ha, rfl, hc2, hg2⟩
  have hb2 : Below w.heap.size w w2 := hb1.grown hg2 hb1.size (fun j hj => by injection hj with hj; omega)
  have hp2 := (cur_lt hc2).1
  have hc2' := cur_next hc2 (up_ (Below.refl w2.heap.size w2) (.cells #[.int .i64 0, .int .i64 1, .int .i64 9, .int .i64 10, .int .i64 (-1)] 3))
  have hb2' := up_ hb2 (.cells #[.int .i64 0, .int .i64 1, .int .i64 9, .int .i64 10, .int .i64 (-1)] 3)
  have HL2 := Lib.hid (lit5 w2 0 1 9 10 (-1))
  clear hc1 hg2 hc2
  go_wp2_with fail
  refine (pick_b w.heap.size p w2.heap.size 5 5 [0, 1, 9, 10, -1] (-1) 10 (by decide) rfl (by omega) (by omega) _ hc2' HL2.out (by omega)).mono ?_
  rintro e w3 ⟨v, hv1, hv2, rfl, hc3, hg3⟩
  have hb3 : Below w.heap.size w w3 := hb2'.grown hg3 hb2'.size (fun j hj => by injection hj with hj; omega)
  have hp3 := (cur_lt hc3).1
  have hc3' := cur_next hc3 (up_ (Below.refl w3.heap.size w3) (.cells #[.int .i64 0, .int .i64 1, .int .i64 60, .int .i64 61, .int .i64 5] 3))
  have hb3' := up_ hb3 (.cells #[.int .i64 0, .int .i64 1, .int .i64 60, .int .i64 61, .int .i64 5] 3)
  have HL3 := Lib.hid (lit5 w3 0 1 60 61 5)
  clear hc2' hg3 hc3 HL2
  go_wp2_with fail
  refine (pick_b w.heap.size p w3.heap.size 5 5 [0, 1, 60, 61, 5] 0 61 (by decide) rfl (by omega) (by omega) _ hc3' HL3.out (by omega)).mono ?_
  rintro e w4 ⟨x, hx1, hx2, rfl, hc4, hg4⟩
  have hb4 : Below w.heap.size w w4 := hb3'.grown hg4 hb3'.size (fun j hj => by injection hj with hj; omega)
  have hW : IntKind.i64.wrap ((a : Int) - 1) = (a : Int) - 1 := IntWalk.i64_in _ (by omega)
  clear hc3' hg4 hc4 HL3 hb3' hb2' hb3 hb2 hb1
  go_wp2
  exact bodyPost_ret (v := .tuple #[.int .i64 ((a : Int) - 1), .int .i64 v, .int .i64 x]) (by simp [results, Try.results15, go_sem]) rfl ⟨(a : Int) - 1, v, x, by omega, by omega, hv1, hv2, hx1, hx2, rfl, hb4⟩
set_option maxHeartbeats 1600000 in
theorem walk (A : Option Addr) (n c : Nat) (hm : n ≤ maxLen) (w : World) (hr : RdC w w.heap.size A n) :
    Calls Try.prog 4 #[.slice A n c] w fun e w' => e = .returned (.bool true) ∧ Below w.heap.size w w' := by
  have HD := Lib.hid (drawBare_any A n c hm w hr)
  clear hr
  go_enter Try.func4, Try.ntmps4
  go_wp2_with fail
  refine HD.out.mono ?_
  rintro e w1 ⟨k, v, x, -, -, -, -, -, -, rfl, hB1⟩
  rcases hq : bareB k v x with _ | _
  · have HB := Lib.hid (implBare_as k v x 0 0 0 false (by unfold bareR; rw [hq]; rfl) w1)
    clear hq
    go_wp2_with fail
    refine HB.out.mono ?_
    rintro e w2 ⟨rfl, hb2⟩
    have hB2 := up_ (on_ hB1 hb2) (.cells #[.int .i64 0, .int .i64 0, .int .i64 0, .int .i64 0, .int .i64 0, .slice none 0 0] 27)
    clear hB1 hb2
    go_wp2_with fail
    refine (wires_any _).mono ?_
    rintro e wz ⟨rfl, hbz⟩
    have hBz := on_ hB2 hbz
    go_wp2
    go_ret
    exact ⟨rfl, hBz⟩
  · have HB := Lib.hid (implBare_as k v x k v x true (by unfold bareR; rw [hq]; rfl) w1)
    have hok : msgOkB k v x 0 0 [] = true := by unfold bareB at hq; simp only [Bool.and_eq_true] at hq; exact hq.2
    have hk3 : (k != 3) = true := by unfold bareB at hq; simp only [Bool.and_eq_true, decide_eq_true_eq] at hq; simpa using hq.1
    have HBO := Lib.hid (fun W => implBound_as true false 0 0 k v x 0 0 none 0 [] hok ⟨rfl, rfl, rfl⟩ W Rd.nil_ (by simp))
    have HOK := Lib.hid (fun W => implMsgOk_is true k v x 0 0 none 0 [] hok W Rd.nil_ (by simp))
    have hkk : ∀ z : Int, (z == z) = true := fun z => by simp
    clear hq hok
    go_wp2_with fail
    refine HB.out.mono ?_
    rintro e w2 ⟨rfl, hb2⟩
    have hB2 := up_ (on_ hB1 hb2) (.cells #[.int .i64 k, .int .i64 v, .int .i64 x, .int .i64 0, .int .i64 0, .slice none 0 0] 27)
    have km2 := Blk.new w2 27 #[.int .i64 k, .int .i64 v, .int .i64 x, .int .i64 0, .int .i64 0, .slice none 0 0]
    clear hB1 hb2 HB
    go_wp2_with fail
    generalize w2.alloc (.cells #[.int .i64 k, .int .i64 v, .int .i64 x, .int .i64 0, .int .i64 0, .slice none 0 0] 27) = w3 at *
    refine (HBO.out w3).mono ?_
    rintro e w4 ⟨rfl, hb4⟩
    have hB5 := up_ (on_ hB2 hb4) (.cells #[.int .i64 0, .int .i64 0] 24)
    have km5 := (km2.on hb4).alloc (.cells #[.int .i64 0, .int .i64 0] 24)
    clear km2 hB2 hb4
    have rm := km5.rule
    go_wp2_with fail
    refine (HOK.out _).mono ?_
    rintro e w6 ⟨rfl, hb6⟩
    have hB6 := on_ hB5 hb6
    clear rm km5 hB5 hb6
    go_wp2_with fail
    refine (wires_any _).mono ?_
    rintro e wz ⟨rfl, hbz⟩
    have hBz := on_ hB6 hbz
    go_wp2
    go_ret
    exact ⟨rfl, hBz⟩

theorem closed : joinedFacts Try.prog 4 Try.f4 Rows.fnBaresSpec Rows.fnBaresRow = true := by
  unfold joinedFacts
  rw [D.make_is, D.enter_is, D.final_is]
  kernel_rfl

set_option maxRecDepth 100000 in
theorem lifted (os : Os) (started : os.Started) (H : Type) (enc : TypeId × Value → H) :
    ReturnsInHanded {} Try.checked os 4 .any (Rows.fnBaresSpec.pre6 enc Try.prog Try.f4 Rows.fnBaresRow.domain false) (Rows.fnBaresSpec.post enc Try.prog Try.f4 false true false false) := by
  refine returnsInHanded_of_change (C := Try.checked) D.own started (by kernel_rfl) Try.func4
    (ChangeSpec.witness6 (enc := enc) (C := Try.checked) false ⟨#[], #[.slice none 0 0], []⟩ 8 (by kernel_rfl) (by kernel_rfl) (by kernel_rfl) (by kernel_rfl)) ?_
  intro W base args ds gs before hval0 hW hcnd _
  have hval : ∀ (j : Nat) t v, Try.f4.params[j]? = some t → args[j]? = some v → Value.okWide Try.prog W .any base t v := hval0
  have hW' := hW
  obtain ⟨p, q, hA0, hV, rfl, hfz, hnd⟩ := hW
  have hA : DataW.TrodAll enc Try.prog W 0 (fun _ => true) true Try.f4.params.toList args.toList ds p := hA0
  rw [Try.params4] at hA hval
  obtain ⟨v0, d0, rfl, rfl, h0⟩ := trodAll_one hA
  obtain ⟨a0, len0, cap0, rfl⟩ := okWide_slice Try.underlying22 (hval 0 22 v0 rfl rfl)
  obtain ⟨fuel0, hf0⟩ := h0
  obtain ⟨Ab, nb, cb, hcs0, hmb, hrb⟩ := open_code hf0
  have hv0 : (Value.slice a0 len0 cap0) = .slice Ab nb cb := by simpa [Value.cells] using hcs0
  rw [hv0] at hW' ⊢
  refine (walk Ab nb cb hmb W hrb).mono fun e W' ⟨he, hb⟩ => ⟨_, he, law_post D.laidOut hW' hb rfl (by kernel_rfl) Try.underlying4 (by kernel_rfl) rfl⟩

theorem over : Rows.fnBaresRow.holds Try.pinned (OpenSpec.ofChange Rows.fnBaresSpec) :=
  OpenClaim.holds_of_wide 4 Try.f4 rfl rfl rfl rfl rfl rfl rfl ⟨rfl, rfl, rfl, rfl, rfl⟩ rfl rfl rfl rfl rfl (by kernel_rfl) Try.func4 closed
    (of_decide_eq_true (by kernel_rfl)) (by unfold Func.isWrapper; first | (rw [if_pos (by decide +kernel)]; kernel_rfl) | (rw [if_neg (by decide +kernel)]; exact ⟨rfl, rfl⟩))
    (fun os started H enc _ => lifted os started H enc)

theorem proved : Rows.FnBaresSaid :=
  over
end Go.Proofs.Ytaegcdbgnjlbdaa.fnBares
