/-
  Proved here: for every list of votes and every bound, VotesOk of the program answers as VotesOk of the model, and the list reads afterwards as before. No condition.
-/
import Derived.Test.YtbgkjhfhcaidcaaRows
import Derived.Test.YtbgkjhfhcaidcaaLift
import Derived.Test.YtbgkjhfhcaidcaaVotesOkSpec
import Derived.Test.YtbgkjhfhcaidcaaVotesOkImpl
set_option linter.unusedVariables false
namespace Go.Proofs.Ytbgkjhfhcaidcaa.fnExactVotesOk
open Go.RowKit Go.ChangeShapes Go.WideShapes Go.Proofs.Ytbgkjhfhcaidcaa.B Go.Proofs.Ytbgkjhfhcaidcaa.V

theorem own : ownKnob Try.prog.godebug = none := by kernel_rfl
theorem laidOut : laidOutB Try.prog = true := by kernel_rfl

theorem walk (A : Option Addr) (c : Nat) (vs : List (Int × Int)) (below : Int) (w : World) (hm : vs.length ≤ maxLen) (hr : Rd w w.heap.size A vs) :
    Calls Try.prog 4 #[.slice A vs.length c, .int .i64 below] w fun e w' => e = .returned (.bool true) ∧ Below w.heap.size w w' := by
  by_cases hn : (1048576 : Int) < vs.length
  · have h1 : Calls Try.prog 15 #[.slice A vs.length c, .int .i64 1048576] w fun e w' => e = .returned (.int .i64 (-1)) ∧ w = w' := by
      have := sz_any A vs.length c 1048576 w hm (by omega) (by omega)
      rwa [if_pos (by omega)] at this
    have H1 := Lib.hid h1; clear h1
    go_enter Try.func4, Try.ntmps4
    go_wp2_with (go_at_call 15; refine H1.out.mono ?_; rintro e w1 ⟨rfl, rfl⟩)
    go_ret
    exact ⟨rfl, Below.refl _ _⟩
  · have hn' : vs.length ≤ 1048576 := by omega
    have h1 : Calls Try.prog 15 #[.slice A vs.length c, .int .i64 1048576] w fun e w' => e = .returned (.int .i64 (1048576 - vs.length)) ∧ w = w' := by
      have := sz_any A vs.length c 1048576 w hm (by omega) (by omega)
      rwa [if_neg (by omega)] at this
    have H1 := Lib.hid h1; clear h1
    go_enter Try.func4, Try.ntmps4
    go_wp2_with (go_at_call 15; refine H1.out.mono ?_; rintro e w1 ⟨rfl, rfl⟩)
    refine (toVoteS_any A c vs _ hr hn').mono ?_
    rintro e w1 ⟨g1, cs1, rfl, hg1, hk1, hp1, hb1⟩
    have hr1 : Rd w1 w1.heap.size A vs := (hr.below hb1).more hb1.size
    go_wp2_with fail
    refine (specVotesOk_any (some ⟨g1, 0, none⟩) vs.length vs below _ (hp1.rd hk1 hk1.lt) hn').mono ?_
    rintro e w2 ⟨rfl, hb2⟩
    have hB2 : Below w.heap.size w w2 := hb1.trans (hb2.mono hb1.size)
    have hr2 : Rd w2 w2.heap.size A vs := (hr1.below hb2).more hb2.size
    clear hr1 hk1 hp1
    obtain ⟨q, hq⟩ : ∃ q, votesOkB vs below = q := ⟨_, rfl⟩
    rw [hq]
    have HQ := Lib.hid hq; clear hq
    go_wp2_with fail
    refine (toVoteS_any A c vs _ hr2 hn').mono ?_
    rintro e w3 ⟨g3, cs3, rfl, hg3, hk3, hp3, hb3⟩
    have hB3 : Below w.heap.size w w3 := hB2.trans (hb3.mono hB2.size)
    have hr3 : Rd w3 w3.heap.size A vs := (hr2.below hb3).more hb3.size
    have hs3 : Rd w3 w3.heap.size (some ⟨g3, 0, none⟩) vs := hp3.rd hk3 hk3.lt
    clear hr2 hk3 hp3 hg3
    go_wp2_with fail
    refine (implVotesOk_any (some ⟨g3, 0, none⟩) vs.length vs below _ hs3 hn').mono ?_
    rintro e w4 ⟨rfl, hb4⟩
    have hB4 : Below w.heap.size w w4 := hB3.trans (hb4.mono hB3.size)
    have hr4 : Rd w4 w4.heap.size A vs := (hr3.below hb4).more hb4.size
    have hs4 : Rd w4 w4.heap.size (some ⟨g3, 0, none⟩) vs := (hs3.below hb4).more hb4.size
    clear hr3 hs3
    rw [HQ.out]
    go_wp2_with fail
    refine (toVoteS_any A c vs _ hr4 hn').mono ?_
    rintro e w5 ⟨g5, cs5, rfl, hg5, hk5, hp5, hb5⟩
    have hB5 : Below w.heap.size w w5 := hB4.trans (hb5.mono hB4.size)
    have hs5 : Rd w5 w5.heap.size (some ⟨g3, 0, none⟩) vs := (hs4.below hb5).more hb5.size
    have ht5 : Rd w5 w5.heap.size (some ⟨g5, 0, none⟩) vs := hp5.rd hk5 hk5.lt
    clear hr4 hs4 hk5 hp5
    go_wp2_with fail
    refine (eqVoteS_same (some ⟨g3, 0, none⟩) (some ⟨g5, 0, none⟩) _ _ vs _ hs5 ht5 hn').mono ?_
    rintro e w6 ⟨rfl, hb6⟩
    have hB6 : Below w.heap.size w w6 := hB5.trans (hb6.mono hB5.size)
    go_wp2
    go_ret
    exact ⟨rfl, hB6⟩

set_option maxRecDepth 100000 in
theorem lifted (os : Os) (started : os.Started) (H : Type) (enc : TypeId × Value → H) :
    ReturnsInHanded {} Try.checked os 4 .any (Rows.fnExactVotesOkSpec.pre6 enc Try.prog Try.f4 Rows.fnExactVotesOkRow.domain false) (Rows.fnExactVotesOkSpec.post enc Try.prog Try.f4 false true false false) := by
  refine returnsInHanded_of_change (C := Try.checked) own started (by kernel_rfl) Try.func4
    (ChangeSpec.witness6 (enc := enc) (C := Try.checked) false ⟨#[], #[.slice none 0 0, .int .i64 0], []⟩ 8 (by kernel_rfl) (by kernel_rfl) (by kernel_rfl) (by kernel_rfl)) ?_
  intro W base args ds gs before hval0 hW hcnd _
  have hval : ∀ (j : Nat) t v, Try.f4.params[j]? = some t → args[j]? = some v → Value.okWide Try.prog W .any base t v := hval0
  have hW' := hW
  obtain ⟨p, q, hA0, hV, rfl, hfz, hnd⟩ := hW
  have hA : DataW.TrodAll enc Try.prog W 0 (fun _ => true) true Try.f4.params.toList args.toList ds p := hA0
  rw [Try.params4] at hA hval
  obtain ⟨v0, v1, d0, d1, p0, p1, rfl, rfl, rfl, h0, h1⟩ := trodAll_two hA
  obtain ⟨a0, len, cap, rfl⟩ := okWide_slice Try.underlying23 (hval 0 23 v0 rfl rfl)
  obtain ⟨fuel, hf⟩ := h0
  obtain ⟨A, c, vs, hcs, hm, hr⟩ := open_pairs Try.underlying23 Try.underlying31 (by kernel_rfl) rfl rfl (by kernel_rfl) (by kernel_rfl) Try.underlying3 Try.underlying3 hf
  obtain ⟨b, rfl, rfl, rfl, wb⟩ := open_int Try.underlying3 (hval 1 3 v1 rfl rfl) h1
  have hv0 : (Value.slice a0 len cap) = .slice A vs.length c := by simpa [Value.cells] using hcs
  rw [hv0] at hW' ⊢
  refine (walk A c vs b W hm hr).mono fun e W' ⟨he, hb⟩ => ⟨_, he, law_post laidOut hW' hb rfl (by kernel_rfl) Try.underlying4 (by kernel_rfl) rfl⟩

theorem over : Rows.fnExactVotesOkRow.holds Try.pinned (OpenSpec.ofChange Rows.fnExactVotesOkSpec) :=
  OpenClaim.holds_of_wide 4 Try.f4 rfl rfl rfl rfl rfl rfl rfl ⟨rfl, rfl, rfl, rfl, rfl⟩ rfl rfl rfl rfl rfl (by kernel_rfl) Try.func4 (by kernel_rfl)
    (of_decide_eq_true (by kernel_rfl)) (by unfold Func.isWrapper; first | (rw [if_pos (by decide +kernel)]; kernel_rfl) | (rw [if_neg (by decide +kernel)]; exact ⟨rfl, rfl⟩))
    (fun os started H enc _ => lifted os started H enc)

theorem proved : Rows.FnExactVotesOkSaid :=
  over
end Go.Proofs.Ytbgkjhfhcaidcaa.fnExactVotesOk
