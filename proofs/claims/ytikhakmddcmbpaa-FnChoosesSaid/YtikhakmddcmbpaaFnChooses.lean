/-
  Proved here: for whatever bytes of a draw, the law FnChooses (what is chosen is safe, and if the reports are free it is the own value) answers true. No condition.
-/
import Derived.Test.YtikhakmddcmbpaaRows
import Derived.Test.YtikhakmddcmbpaaDoor
import Derived.Test.YtikhakmddcmbpaaDraws3
import Derived.Test.YtikhakmddcmbpaaSafeMath
import Derived.Test.YtikhakmddcmbpaaLift
set_option linter.unusedVariables false
set_option maxRecDepth 100000
namespace Go.Proofs.Ytikhakmddcmbpaa.fnChooses
open Go.RowKit Go.ChangeShapes Go.WideShapes Go.Proofs.Ytikhakmddcmbpaa.B Go.Proofs.Ytikhakmddcmbpaa.V

set_option maxHeartbeats 3200000 in
theorem walk (A : Option Addr) (nb c : Nat) (hm : nb ≤ maxLen) (w : World) (hr : RdC w w.heap.size A nb) :
    Calls Try.prog 7 #[.slice A nb c] w fun e w' => e = .returned (.bool true) ∧ Below w.heap.size w w' := by
  have HD := Lib.hid (drawChoose_any A nb c hm w hr)
  clear hr
  go_enter Try.func7, Try.ntmps7
  go_wp2_with fail
  refine HD.out.mono ?_
  rintro e w1 ⟨n, view, B, d, ps, x, hx, rfl, hok, hr1, hB1⟩
  have hf := hok.few
  have hr1 := Lib.hid hr1
  have hB1 := Lib.hid hB1
  obtain ⟨q, hq⟩ : ∃ q, repsOkB n view (rl ps) = q := ⟨_, rfl⟩
  have HQ := Lib.hid (fun W h => specReportsOk_is q n view B d ps hq W h hf)
  have hlen : (rl ps).length = ps.length := rl_len ps
  obtain ⟨own, hown⟩ : ∃ v : Int, (x : Int) = v := ⟨_, rfl⟩
  rw [hown] at *
  clear hown hx HQ hq
  have hcf := choose_facts n view own (rl ps)
  obtain ⟨⟨v, ok⟩, hz⟩ : ∃ z, chooseT n view (rl ps) own = z := ⟨_, rfl⟩
  rw [hz] at hcf
  have HC : Hid (∀ W, RdR W W.heap.size B ps → Calls Try.prog 37 #[.int .i64 n, .int .i64 view, .slice B ps.length d, .int .i64 (own)] W fun e w' => e = .returned (.tuple #[.int .i64 v, .bool ok]) ∧ Below W.heap.size W w') := fun W h => by
    have := implChoose_any n view own B d ps _ rfl W h hf
    rwa [hz] at this
  go_wp2_with fail
  refine (HC.out _ hr1.out).mono ?_
  rintro e w2 ⟨rfl, hb⟩
  have hr2 := Lib.hid (hr1.out.on hb)
  have hB2 := Lib.hid (on_ hB1.out hb)
  clear hb hr1 hB1
  rcases hcf with ⟨h1, h2⟩ | ⟨h1, h2, h3⟩
  · have h1 : ok = false := h1
    have h2 : v = 0 := h2
    subst h1 h2
    go_wp2_with fail
    refine (reports_is _).mono ?_
    rintro e w3 ⟨rfl, hb⟩
    have hB3 := on_ hB2.out hb
    go_wp2
    go_ret
    exact ⟨rfl, hB3⟩
  · have h1 : ok = true := h1
    have h2 : safeT n view (rl ps) v = true := h2
    have h3 : freeT n view (rl ps) = false ∨ v = own := h3
    subst h1
    obtain ⟨f, hfq⟩ : ∃ z, freeT n view (rl ps) = z := ⟨_, rfl⟩
    rw [hfq] at h3
    have HS : Hid (∀ W, RdR W W.heap.size B ps → Calls Try.prog 31 #[.int .i64 n, .int .i64 view, .slice B ps.length d, .int .i64 (v)] W fun e w' => e = .returned (.bool true) ∧ Below W.heap.size W w') := fun W h => by
      have := implSafe_any n view v B d ps _ rfl W h hf
      rwa [h2] at this
    have HF : Hid (∀ W, RdR W W.heap.size B ps → Calls Try.prog 33 #[.int .i64 n, .int .i64 view, .slice B ps.length d] W fun e w' => e = .returned (.bool f) ∧ Below W.heap.size W w') := fun W h => by
      have := implFree_any n view B d ps _ rfl W h hf
      rwa [hfq] at this
    clear h2 hfq hz hlen hok hf
    go_wp2_with fail
    refine (HS.out _ hr2.out).mono ?_
    rintro e w3 ⟨rfl, hb⟩
    have hr3 := Lib.hid (hr2.out.on hb)
    have hB3 := Lib.hid (on_ hB2.out hb)
    clear hb hr2 hB2
    go_wp2_with fail
    refine (HF.out _ hr3.out).mono ?_
    rintro e w4 ⟨rfl, hb⟩
    have hr4 := Lib.hid (hr3.out.on hb)
    have hB4 := Lib.hid (on_ hB3.out hb)
    clear hb hr3 hB3
    rcases f with _ | _
    · skip
      go_wp2_with fail
      refine (reports_is _).mono ?_
      rintro e w5 ⟨rfl, hb⟩
      have hB5 := on_ hB4.out hb
      go_wp2
      go_ret
      exact ⟨rfl, hB5⟩
    · have h4 : v = own := h3.resolve_left (by simp)
      subst h4
      go_wp2_with fail
      refine (reports_is _).mono ?_
      rintro e w5 ⟨rfl, hb⟩
      have hB5 := on_ hB4.out hb
      go_wp2
      go_ret
      exact ⟨rfl, hB5⟩

theorem closed : joinedFacts Try.prog 7 Try.f7 Rows.fnChoosesSpec Rows.fnChoosesRow = true := by
  unfold joinedFacts
  rw [D.make_is, D.enter_is, D.final_is]
  kernel_rfl

set_option maxRecDepth 100000 in
theorem lifted (os : Os) (started : os.Started) (H : Type) (enc : TypeId × Value → H) :
    ReturnsInHanded {} Try.checked os 7 .any (Rows.fnChoosesSpec.pre6 enc Try.prog Try.f7 Rows.fnChoosesRow.domain false) (Rows.fnChoosesSpec.post enc Try.prog Try.f7 false true false false) := by
  refine returnsInHanded_of_change (C := Try.checked) D.own started (by kernel_rfl) Try.func7
    (ChangeSpec.witness6 (enc := enc) (C := Try.checked) false ⟨#[], #[.slice none 0 0], []⟩ 8 (by kernel_rfl) (by kernel_rfl) (by kernel_rfl) (by kernel_rfl)) ?_
  intro W base args ds gs before hval0 hW hcnd _
  have hval : ∀ (j : Nat) t v, Try.f7.params[j]? = some t → args[j]? = some v → Value.okWide Try.prog W .any base t v := hval0
  have hW' := hW
  obtain ⟨p, q, hA0, hV, rfl, hfz, hnd⟩ := hW
  have hA : DataW.TrodAll enc Try.prog W 0 (fun _ => true) true Try.f7.params.toList args.toList ds p := hA0
  rw [Try.params7] at hA hval
  obtain ⟨v0, d0, rfl, rfl, h0⟩ := trodAll_one hA
  obtain ⟨a0, len0, cap0, rfl⟩ := okWide_slice Try.underlying22 (hval 0 22 v0 rfl rfl)
  obtain ⟨fuel0, hf0⟩ := h0
  obtain ⟨Ab, nb, cb, hcs0, hmb, hrb⟩ := open_code hf0
  have hv0 : (Value.slice a0 len0 cap0) = .slice Ab nb cb := by simpa [Value.cells] using hcs0
  rw [hv0] at hW' ⊢
  refine (walk Ab nb cb hmb W hrb).mono fun e W' ⟨he, hb⟩ => ⟨_, he, law_post D.laidOut hW' hb rfl (by kernel_rfl) Try.underlying4 (by kernel_rfl) rfl⟩

theorem over : Rows.fnChoosesRow.holds Try.pinned (OpenSpec.ofChange Rows.fnChoosesSpec) :=
  OpenClaim.holds_of_wide 7 Try.f7 rfl rfl rfl rfl rfl rfl rfl ⟨rfl, rfl, rfl, rfl, rfl⟩ rfl rfl rfl rfl rfl (by kernel_rfl) Try.func7 closed
    (of_decide_eq_true (by kernel_rfl)) (by unfold Func.isWrapper; first | (rw [if_pos (by decide +kernel)]; kernel_rfl) | (rw [if_neg (by decide +kernel)]; exact ⟨rfl, rfl⟩))
    (fun os started H enc _ => lifted os started H enc)

theorem proved : Rows.FnChoosesSaid :=
  over
end Go.Proofs.Ytikhakmddcmbpaa.fnChooses
