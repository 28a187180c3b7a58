/-
  Proved here: for whatever bytes of a draw, the law FnWinners of winners answers true. No condition.
-/
import Derived.Test.YtfbiblomblcheaaRows
import Derived.Test.YtfbiblomblcheaaDraw5
import Derived.Test.YtfbiblomblcheaaTallies
import Derived.Test.YtfbiblomblcheaaImplWin
import Derived.Test.YtfbiblomblcheaaLift
set_option linter.unusedVariables false
set_option maxRecDepth 100000
namespace Go.Proofs.Ytfbiblomblcheaa.fnWinners
open Go.RowKit Go.ChangeShapes Go.WideShapes Go.Proofs.Ytfbiblomblcheaa.B Go.Proofs.Ytfbiblomblcheaa.V

theorem winN_not {f : Nat → Bool} : ∀ {m k : Nat}, winN f k m = none → ∀ j, k ≤ j → j < k + m → f j = false
  | 0, k, _, j, h1, h2 => by omega
  | m + 1, k, h, j, h1, h2 => by
    rw [winN] at h
    by_cases hk : f k = true
    · rw [if_pos hk] at h; cases h
    · rw [if_neg hk] at h
      by_cases e : j = k
      · subst e; simpa using hk
      · exact winN_not h j (by omega) (by omega)
theorem winN_at {f : Nat → Bool} : ∀ {m k i : Nat}, winN f k m = some i → k ≤ i ∧ i < k + m ∧ f i = true ∧ ∀ j, k ≤ j → j < i → f j = false
  | 0, k, i, h => by simp [winN] at h
  | m + 1, k, i, h => by
    rw [winN] at h
    by_cases hk : f k = true
    · rw [if_pos hk] at h; injection h with h; subst h
      exact ⟨by omega, by omega, hk, fun j h1 h2 => by omega⟩
    · rw [if_neg hk] at h
      obtain ⟨h1, h2, h3, h4⟩ := winN_at h
      refine ⟨by omega, by omega, h3, fun j h5 h6 => ?_⟩
      by_cases e : j = k
      · subst e; simpa using hk
      · exact h4 j (by omega) h6
theorem lost {vs : List B3} {view need : Int} (h : winnerK vs view need = none) (hq : tallyOkB vs = true) (hn : 0 < need) (k : Nat) (h1 : 1 ≤ k) (h2 : k ≤ 60) : countR vs view k < need := by
  unfold winnerK at h
  rw [if_pos ⟨hq, by omega⟩] at h
  have := winN_not h k h1 (by omega)
  unfold enough at this
  simp only [decide_eq_false_iff_not] at this
  simp only [countR, hq, if_true]
  omega
/-- What is not so behind a winner. -/
def wrongB (need i k n : Int) : Bool := (decide (k < i) && decide (need ≤ n)) || (decide (k = i) && decide (n < need)) || (decide (i < k) && decide (need ≤ n) && decide (3 < need))
theorem won {vs : List B3} {view need : Int} {i : Nat} (h : winnerK vs view need = some i) : 1 ≤ i ∧ i ≤ 60 ∧ ∀ k : Nat, 1 ≤ k → k ≤ 60 → ((k < i → countR vs view k < need) ∧ (k = i → need ≤ countR vs view k) ∧ (i < k → 3 < need → countR vs view k < need)) := by
  unfold winnerK at h
  split at h
  · rename_i hc
    obtain ⟨h1, h2, h3, h4⟩ := winN_at h
    have hV := val_of hc.1
    unfold enough at h3 h4
    simp only [decide_eq_true_eq] at h3
    refine ⟨h1, by omega, fun k k1 k2 => ?_⟩
    simp only [countR, hc.1, if_true]
    refine ⟨fun hk => ?_, fun hk => by subst hk; exact h3, fun hk hn => ?_⟩
    · have := h4 k k1 hk
      simp only [decide_eq_false_iff_not] at this
      omega
    · have := cnt_two (M := vs) (view := view) (x := (i : Int)) (y := (k : Int)) (by omega)
      have := view_seven hV view
      omega
  · cases h
set_option maxHeartbeats 3200000 in
theorem walk (A : Option Addr) (n c : Nat) (hm : n ≤ maxLen) (w : World) (hr : RdC w w.heap.size A n) :
    Calls Try.prog 5 #[.slice A n c] w fun e w' => e = .returned (.bool true) ∧ Below w.heap.size w w' := by
  go_enter Try.func5, Try.ntmps5
  go_wp2_with fail
  refine (drawWinner_any A n c hm w hr).mono ?_
  rintro e w1 ⟨B, d, vs, view, need, rfl, hl, hr1, hv0, hv1, hn0, hn1, hB1⟩
  have hwv : wfI view := WalkArith.wf_i64 (by omega)
  obtain ⟨m, hm2⟩ : ∃ m, vs.length = m := ⟨_, rfl⟩
  have c1 := fun W h => implWinner_any view need hwv B d vs W h (by omega)
  have c2 := fun q hq W h => specTallyOk_is q B d vs hq W h (by omega)
  have c3 := fun k W h => implCount_any view k hwv B d vs W h (by omega)
  have kt0 := Blk.new w1 29 #[.slice B vs.length d]
  have hr0 := hr1.up (.cells #[.slice B vs.length d] 29)
  have hB0 := up_ hB1 (.cells #[.slice B vs.length d] 29)
  rw [hm2] at hl c1 c2 c3 kt0 hr0 hB0 ⊢
  have C2 := Lib.hid c2; have C3 := Lib.hid c3
  clear c2 c3 hm2 hB1 hr1 hr
  have rt0 := kt0.rule
  rcases hw : winnerK vs view need with _ | i
  · have hlost := @lost vs view need hw
    rw [hw] at c1
    rw [show winV none = 0 from rfl, show (none : Option Nat).isSome = false from rfl] at c1
    have C1 := Lib.hid c1; have HL := Lib.hid hlost
    clear c1 hlost hw
    go_wp2_with fail
    generalize w1.alloc (.cells #[.slice B m d] 29) = w2 at *
    refine (C1.out _ hr0).mono ?_
    rintro e w3 ⟨rfl, hb3⟩
    have kt3 := kt0.on hb3
    have hr3 := hr0.on hb3
    have hB3 := on_ hB0 hb3
    clear kt0 hr0 hB0 hb3 rt0 C1
    go_wp2
    go_loopw [8] (fun iv wr => ∃ k : Nat, 1 ≤ k ∧ k ≤ 61 ∧ iv = .int .i64 k ∧ Below w3.heap.size w3 wr) (fun iv _ => 61 - (intOf iv).toNat)
    case atStart => exact ⟨1, by omega, by omega, rfl, Below.refl _ _⟩
    case round =>
      obtain ⟨k, hk1, hk2, rfl, hbel⟩ := hrel
      have hrr := hr3.on hbel
      have kt4 := kt3.on hbel
      have rt := kt4.rule
      have hBr := on_ hB3 hbel
      by_cases hlt : k ≤ 60
      · have hle : (k : Int) ≤ 60 := by omega
        have hWk : IntKind.i64.wrap ((k : Int) + 1) = (k : Int) + 1 := IntWalk.i64_in _ (by omega)
        rcases hq : tallyOkB vs with _ | _
        · go_wp2_with fail
          refine (C2.out false hq _ hrr).mono ?_
          rintro e w4 ⟨rfl, hb4⟩
          go_wp2_with fail
          refine (tallies_any _).mono ?_
          rintro e w5 ⟨rfl, hb5⟩
          go_wp2
          go_ret
          exact ⟨rfl, on_ (on_ hBr hb4) hb5⟩
        · by_cases hn : 0 < need
          · have hcnt := HL.out hq hn k hk1 hlt
            have hc3 := C3.out (k : Int)
            generalize countR vs view (k : Int) = q at *
            have hge : ¬ need ≤ q := by omega
            have HC := Lib.hid hc3; clear hc3
            go_wp2_with fail
            refine (C2.out true hq _ hrr).mono ?_
            rintro e w4 ⟨rfl, hb4⟩
            have hr4 := hrr.on hb4
            have kt5 := kt4.on hb4
            have rt5 := kt5.rule
            have hb5 := on_ hbel hb4
            clear hrr kt4 rt hbel hb4
            go_wp2_with fail
            refine (HC.out _ hr4).mono ?_
            rintro e w6 ⟨rfl, hb6⟩
            go_wp2
            go_roundw
            case rel => exact ⟨k + 1, by omega, by omega, by go_num, on_ hb5 hb6⟩
            case measure => simp [intOf]; omega
          · go_wp2_with fail
            refine (C2.out true hq _ hrr).mono ?_
            rintro e w4 ⟨rfl, hb4⟩
            go_wp2_with fail
            refine (tallies_any _).mono ?_
            rintro e w5 ⟨rfl, hb5⟩
            go_wp2
            go_ret
            exact ⟨rfl, on_ (on_ hBr hb4) hb5⟩
      · have hle : decide ((k : Int) ≤ 60) = false := by simp; omega
        go_wp2_with fail
        refine (tallies_any _).mono ?_
        rintro e w5 ⟨rfl, hb5⟩
        go_wp2
        go_ret
        exact ⟨rfl, on_ hBr hb5⟩
  · obtain ⟨i1, i60, hwon⟩ := @won vs view need i hw
    rw [hw] at c1
    rw [show winV (some i) = (i : Int) from rfl, show (some i).isSome = true from rfl] at c1
    have C1 := Lib.hid c1; have HW := Lib.hid hwon
    clear c1 hwon hw
    go_wp2_with fail
    generalize w1.alloc (.cells #[.slice B m d] 29) = w2 at *
    refine (C1.out _ hr0).mono ?_
    rintro e w3 ⟨rfl, hb3⟩
    have kt3 := kt0.on hb3
    have hr3 := hr0.on hb3
    have hB3 := on_ hB0 hb3
    clear kt0 hr0 hB0 hb3 rt0 C1
    go_wp2
    go_loopw [9] (fun iv wr => ∃ k : Nat, 1 ≤ k ∧ k ≤ 61 ∧ iv = .int .i64 k ∧ Below w3.heap.size w3 wr) (fun iv _ => 61 - (intOf iv).toNat)
    case atStart => exact ⟨1, by omega, by omega, rfl, Below.refl _ _⟩
    case round =>
      obtain ⟨k, hk1, hk2, rfl, hbel⟩ := hrel
      have hrr := hr3.on hbel
      have kt4 := kt3.on hbel
      have rt := kt4.rule
      have hBr := on_ hB3 hbel
      by_cases hlt : k ≤ 60
      · have hle : (k : Int) ≤ 60 := by omega
        have hWk : IntKind.i64.wrap ((k : Int) + 1) = (k : Int) + 1 := IntWalk.i64_in _ (by omega)
        obtain ⟨x1, x2, x3⟩ := HW.out k hk1 hlt
        have hc3 := C3.out (k : Int)
        generalize countR vs view (k : Int) = q at *
        have HC := Lib.hid hc3; clear hc3
        go_wp2_with fail
        refine (HC.out _ hrr).mono ?_
        rintro e w6 ⟨rfl, hb6⟩
        have X1 := Lib.hid x1; have X2 := Lib.hid x2; have X3 := Lib.hid x3
        clear x1 x2 x3 hrr kt4 rt
        rcases Nat.lt_trichotomy k i with hki | hki | hki
        · have y1 := X1.out hki
          have d1 : (k : Int) < (i : Int) := by omega
          have d2 : ¬ need ≤ q := by omega
          have d3 : ((k : Int) == (i : Int)) = false := by simp; omega
          have d4 : ¬ (i : Int) < (k : Int) := by omega
          go_wp2
          go_roundw
          case rel => exact ⟨k + 1, by omega, by omega, by go_num, on_ hbel hb6⟩
          case measure => simp [intOf]; omega
        · have y1 := X2.out hki
          subst hki
          have d2 : ¬ q < need := by omega
          go_wp2
          go_roundw
          case rel => exact ⟨k + 1, by omega, by omega, by go_num, on_ hbel hb6⟩
          case measure => simp [intOf]; omega
        · have d1 : ¬ (k : Int) < (i : Int) := by omega
          have d3 : ((k : Int) == (i : Int)) = false := by simp; omega
          have d4 : (i : Int) < (k : Int) := by omega
          by_cases hn3 : 3 < need
          · have y1 := X3.out hki hn3
            have d2 : ¬ need ≤ q := by omega
            go_wp2
            go_roundw
            case rel => exact ⟨k + 1, by omega, by omega, by go_num, on_ hbel hb6⟩
            case measure => simp [intOf]; omega
          · go_wp2
            all_goals
              go_roundw
              case rel => exact ⟨k + 1, by omega, by omega, by go_num, on_ hbel hb6⟩
              case measure => simp [intOf]; omega
      · have hle : decide ((k : Int) ≤ 60) = false := by simp; omega
        go_wp2_with fail
        refine (tallies_any _).mono ?_
        rintro e w5 ⟨rfl, hb5⟩
        go_wp2
        go_ret
        exact ⟨rfl, on_ hBr hb5⟩

theorem own : ownKnob Try.prog.godebug = none := by kernel_rfl
theorem laidOut : laidOutB Try.prog = true := by kernel_rfl

set_option maxRecDepth 100000 in
theorem lifted (os : Os) (started : os.Started) (H : Type) (enc : TypeId × Value → H) :
    ReturnsInHanded {} Try.checked os 5 .any (Rows.fnWinnersSpec.pre6 enc Try.prog Try.f5 Rows.fnWinnersRow.domain false) (Rows.fnWinnersSpec.post enc Try.prog Try.f5 false true false false) := by
  refine returnsInHanded_of_change (C := Try.checked) own started (by kernel_rfl) Try.func5
    (ChangeSpec.witness6 (enc := enc) (C := Try.checked) false ⟨#[], #[.slice none 0 0], []⟩ 8 (by kernel_rfl) (by kernel_rfl) (by kernel_rfl) (by kernel_rfl)) ?_
  intro W base args ds gs before hval0 hW hcnd _
  have hval : ∀ (j : Nat) t v, Try.f5.params[j]? = some t → args[j]? = some v → Value.okWide Try.prog W .any base t v := hval0
  have hW' := hW
  obtain ⟨p, q, hA0, hV, rfl, hfz, hnd⟩ := hW
  have hA : DataW.TrodAll enc Try.prog W 0 (fun _ => true) true Try.f5.params.toList args.toList ds p := hA0
  rw [Try.params5] at hA hval
  obtain ⟨v0, d0, rfl, rfl, h0⟩ := trodAll_one hA
  obtain ⟨a0, len0, cap0, rfl⟩ := okWide_slice Try.underlying22 (hval 0 22 v0 rfl rfl)
  obtain ⟨fuel0, hf0⟩ := h0
  obtain ⟨Ab, nb, cb, hcs0, hmb, hrb⟩ := open_code hf0
  have hv0 : (Value.slice a0 len0 cap0) = .slice Ab nb cb := by simpa [Value.cells] using hcs0
  rw [hv0] at hW' ⊢
  refine (walk Ab nb cb hmb W hrb).mono fun e W' ⟨he, hb⟩ => ⟨_, he, law_post laidOut hW' hb rfl (by kernel_rfl) Try.underlying4 (by kernel_rfl) rfl⟩

theorem over : Rows.fnWinnersRow.holds Try.pinned (OpenSpec.ofChange Rows.fnWinnersSpec) :=
  OpenClaim.holds_of_wide 5 Try.f5 rfl rfl rfl rfl rfl rfl rfl ⟨rfl, rfl, rfl, rfl, rfl⟩ rfl rfl rfl rfl rfl (by kernel_rfl) Try.func5 (by kernel_rfl)
    (of_decide_eq_true (by kernel_rfl)) (by unfold Func.isWrapper; first | (rw [if_pos (by decide +kernel)]; kernel_rfl) | (rw [if_neg (by decide +kernel)]; exact ⟨rfl, rfl⟩))
    (fun os started H enc _ => lifted os started H enc)

theorem proved : Rows.FnWinnersSaid :=
  over
end Go.Proofs.Ytfbiblomblcheaa.fnWinners
