/-
  Proved here: for whatever bytes of a draw, the law FnSizes of quorum sizes answers true. No condition.
-/
import Derived.Test.YtfbiblomblcheaaRows
import Derived.Test.YtfbiblomblcheaaImplSmall
import Derived.Test.YtfbiblomblcheaaCode
import Derived.Test.YtfbiblomblcheaaLift
set_option linter.unusedVariables false
set_option maxRecDepth 100000
namespace Go.Proofs.Ytfbiblomblcheaa.fnSizes
open Go.RowKit Go.ChangeShapes Go.WideShapes Go.Proofs.Ytfbiblomblcheaa.B Go.Proofs.Ytfbiblomblcheaa.V

theorem drawSize_any (A : Option Addr) (n c : Nat) (hm : n ≤ maxLen) (w : World) (hr : RdC w w.heap.size A n) :
    Calls Try.prog 20 #[.slice A n c] w fun e w' => ∃ x : Nat, x < 9 ∧ e = .returned (.int .i64 x) ∧ Below w.heap.size w w' := by
  go_enter Try.func20, Try.ntmps20
  go_wp2_with fail
  refine (new_any A n c hm w hr).mono ?_
  rintro e w1 ⟨p, rfl, hc, hb1⟩
  go_wp2_with fail
  refine (below_any w.heap.size p 9 (by omega) (by omega) w1 hc).mono ?_
  rintro e w2 ⟨x, hx, rfl, hc2, hg2⟩
  go_wp2
  go_ret
  exact ⟨x, hx, rfl, hb1.grown hg2 hb1.size (fun j hj => by injection hj with hj; have := (cur_lt hc).2; omega)⟩
theorem walk (A : Option Addr) (n c : Nat) (hm : n ≤ maxLen) (w : World) (hr : RdC w w.heap.size A n) :
    Calls Try.prog 3 #[.slice A n c] w fun e w' => e = .returned (.bool true) ∧ Below w.heap.size w w' := by
  have hs4 : strongR 4 = 3 := by decide
  have hs7 : strongR 7 = 5 := by decide
  have hz4 : sizeB 4 = true := by decide
  go_enter Try.func3, Try.ntmps3
  go_wp2_with fail
  refine (drawSize_any A n c hm w hr).mono ?_
  rintro e w1 ⟨x, hx, rfl, hb1⟩
  obtain ⟨y, hy⟩ : ∃ y : Int, (x : Int) = y := ⟨_, rfl⟩
  rw [hy]
  clear hy hx
  rcases hs : sizeB y with _ | _
  · have h1 : faultsR y = -1 := by simp [faultsR, hs]
    have h2 : strongR y = -1 := by simp [strongR, hs]
    have h3 : weakR y = -1 := by simp [weakR, hs]
    go_wp2_with (first | (go_at_call 21; refine (implFaults_any _ _).mono ?_; rintro e w0 ⟨rfl, rfl⟩) | (go_at_call 22; refine (implStrong_any _ _).mono ?_; rintro e w0 ⟨rfl, rfl⟩) | (go_at_call 23; refine (implWeak_any _ _).mono ?_; rintro e w0 ⟨rfl, rfl⟩) | (go_at_call 24; refine (implSize_any _ _).mono ?_; rintro e w0 ⟨rfl, rfl⟩) | (go_at_call 25; refine (specSize_any _ _).mono ?_; rintro e w0 ⟨rfl, rfl⟩))
    go_ret
    exact ⟨rfl, hb1⟩
  · rcases size_two hs with rfl | rfl
    · have h1 : faultsR 4 = 1 := by decide
      have h3 : weakR 4 = 2 := by decide
      go_wp2_with (first | (go_at_call 21; refine (implFaults_any _ _).mono ?_; rintro e w0 ⟨rfl, rfl⟩) | (go_at_call 22; refine (implStrong_any _ _).mono ?_; rintro e w0 ⟨rfl, rfl⟩) | (go_at_call 23; refine (implWeak_any _ _).mono ?_; rintro e w0 ⟨rfl, rfl⟩) | (go_at_call 24; refine (implSize_any _ _).mono ?_; rintro e w0 ⟨rfl, rfl⟩) | (go_at_call 25; refine (specSize_any _ _).mono ?_; rintro e w0 ⟨rfl, rfl⟩))
      go_ret
      exact ⟨rfl, hb1⟩
    · have h1 : faultsR 7 = 2 := by decide
      have h3 : weakR 7 = 3 := by decide
      go_wp2_with (first | (go_at_call 21; refine (implFaults_any _ _).mono ?_; rintro e w0 ⟨rfl, rfl⟩) | (go_at_call 22; refine (implStrong_any _ _).mono ?_; rintro e w0 ⟨rfl, rfl⟩) | (go_at_call 23; refine (implWeak_any _ _).mono ?_; rintro e w0 ⟨rfl, rfl⟩) | (go_at_call 24; refine (implSize_any _ _).mono ?_; rintro e w0 ⟨rfl, rfl⟩) | (go_at_call 25; refine (specSize_any _ _).mono ?_; rintro e w0 ⟨rfl, rfl⟩))
      go_ret
      exact ⟨rfl, hb1⟩

theorem own : ownKnob Try.prog.godebug = none := by kernel_rfl
theorem laidOut : laidOutB Try.prog = true := by kernel_rfl

set_option maxRecDepth 100000 in
theorem lifted (os : Os) (started : os.Started) (H : Type) (enc : TypeId × Value → H) :
    ReturnsInHanded {} Try.checked os 3 .any (Rows.fnSizesSpec.pre6 enc Try.prog Try.f3 Rows.fnSizesRow.domain false) (Rows.fnSizesSpec.post enc Try.prog Try.f3 false true false false) := by
  refine returnsInHanded_of_change (C := Try.checked) own started (by kernel_rfl) Try.func3
    (ChangeSpec.witness6 (enc := enc) (C := Try.checked) false ⟨#[], #[.slice none 0 0], []⟩ 8 (by kernel_rfl) (by kernel_rfl) (by kernel_rfl) (by kernel_rfl)) ?_
  intro W base args ds gs before hval0 hW hcnd _
  have hval : ∀ (j : Nat) t v, Try.f3.params[j]? = some t → args[j]? = some v → Value.okWide Try.prog W .any base t v := hval0
  have hW' := hW
  obtain ⟨p, q, hA0, hV, rfl, hfz, hnd⟩ := hW
  have hA : DataW.TrodAll enc Try.prog W 0 (fun _ => true) true Try.f3.params.toList args.toList ds p := hA0
  rw [Try.params3] at hA hval
  obtain ⟨v0, d0, rfl, rfl, h0⟩ := trodAll_one hA
  obtain ⟨a0, len0, cap0, rfl⟩ := okWide_slice Try.underlying22 (hval 0 22 v0 rfl rfl)
  obtain ⟨fuel0, hf0⟩ := h0
  obtain ⟨Ab, nb, cb, hcs0, hmb, hrb⟩ := open_code hf0
  have hv0 : (Value.slice a0 len0 cap0) = .slice Ab nb cb := by simpa [Value.cells] using hcs0
  rw [hv0] at hW' ⊢
  refine (walk Ab nb cb hmb W hrb).mono fun e W' ⟨he, hb⟩ => ⟨_, he, law_post laidOut hW' hb rfl (by kernel_rfl) Try.underlying4 (by kernel_rfl) rfl⟩

theorem over : Rows.fnSizesRow.holds Try.pinned (OpenSpec.ofChange Rows.fnSizesSpec) :=
  OpenClaim.holds_of_wide 3 Try.f3 rfl rfl rfl rfl rfl rfl rfl ⟨rfl, rfl, rfl, rfl, rfl⟩ rfl rfl rfl rfl rfl (by kernel_rfl) Try.func3 (by kernel_rfl)
    (of_decide_eq_true (by kernel_rfl)) (by unfold Func.isWrapper; first | (rw [if_pos (by decide +kernel)]; kernel_rfl) | (rw [if_neg (by decide +kernel)]; exact ⟨rfl, rfl⟩))
    (fun os started H enc _ => lifted os started H enc)

theorem proved : Rows.FnSizesSaid :=
  over
end Go.Proofs.Ytfbiblomblcheaa.fnSizes
