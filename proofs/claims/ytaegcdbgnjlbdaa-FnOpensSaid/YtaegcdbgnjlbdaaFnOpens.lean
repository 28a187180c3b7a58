/-
  Proved here: for whatever bytes of a draw, the law FnOpens (where a value has a strong quorum the view is open; where no replica is silent it is open exactly then) answers true. No condition.
-/
import Derived.Test.YtaegcdbgnjlbdaaRows
import Derived.Test.YtaegcdbgnjlbdaaDoor
import Derived.Test.YtaegcdbgnjlbdaaDraw6
import Derived.Test.YtaegcdbgnjlbdaaTallies
import Derived.Test.YtaegcdbgnjlbdaaImplWin
import Derived.Test.YtaegcdbgnjlbdaaImplOpen
import Derived.Test.YtaegcdbgnjlbdaaTalMath
import Derived.Test.YtaegcdbgnjlbdaaLift
set_option linter.unusedVariables false
set_option maxRecDepth 100000
namespace Go.Proofs.Ytaegcdbgnjlbdaa.fnOpens
open Go.RowKit Go.ChangeShapes Go.WideShapes Go.Proofs.Ytaegcdbgnjlbdaa.B Go.Proofs.Ytaegcdbgnjlbdaa.V

theorem winN_mono {f g : Nat → Bool} (h : ∀ k, f k = true → g k = true) : ∀ (m k : Nat), (winN f k m).isSome = true → (winN g k m).isSome = true
  | 0, _, h0 => by simp [winN] at h0
  | m + 1, k, h0 => by
    rw [winN] at h0 ⊢
    by_cases hg : g k = true
    · rw [if_pos hg]; rfl
    · rw [if_neg hg]
      have hf : ¬ f k = true := fun e => hg (h k e)
      rw [if_neg hf] at h0
      exact winN_mono h m (k + 1) h0
theorem winN_congr {f g : Nat → Bool} (h : ∀ k, f k = g k) (m k : Nat) : winN f k m = winN g k m := by rw [funext h]
theorem open_facts (n view : Int) (vs : List B3) (hs : sizeB n = true) (hq : tallyOkB vs = true) :
    ((winnerK vs view (strongR n)).isSome = true → openR n vs view = true) ∧ ((silentR n vs view).length = 0 → openR n vs view = (winnerK vs view (strongR n)).isSome) := by
  have hst : 1 ≤ strongR n := by
    unfold strongR
    rw [if_pos hs]
    rcases size_two hs with rfl | rfl <;> decide
  have e1 : winnerK vs view (strongR n) = winN (enough vs view (strongR n)) 1 60 := by unfold winnerK; rw [if_pos ⟨hq, hst⟩]; rfl
  have e2 : openR n vs view = (winN (openF n vs view) 1 60).isSome := by unfold openR; rw [hs, hq]; rfl
  rw [e1, e2]
  refine ⟨fun h => winN_mono (fun k hk => ?_) 60 1 h, fun h0 => ?_⟩
  · unfold enough at hk
    unfold openF
    simp only [decide_eq_true_eq] at hk ⊢
    omega
  · rw [winN_congr (fun k => ?_) 60 1]
    unfold enough openF
    rw [h0]
    simp
set_option maxHeartbeats 1600000 in
theorem walk (A : Option Addr) (n c : Nat) (hm : n ≤ maxLen) (w : World) (hr : RdC w w.heap.size A n) :
    Calls Try.prog 8 #[.slice A n c] w fun e w' => e = .returned (.bool true) ∧ Below w.heap.size w w' := by
  have HD := Lib.hid (drawOpen_any A n c hm w hr)
  clear hr
  go_enter Try.func8, Try.ntmps8
  go_wp2_with fail
  refine HD.out.mono ?_
  rintro e w0 ⟨B, d, vs, b1, nn, view, rfl, hul, hot, -, hn3, hv0, hv1, hB0⟩
  have hwv : wfI view := WalkArith.wf_i64 (by omega)
  have hr1 := Lib.hid (hot.rd.up (.cells #[.slice B vs.length d] 44))
  have hB1 := Lib.hid (up_ hB0 (.cells #[.slice B vs.length d] 44))
  have kt1 := Lib.hid (Blk.new w0 44 #[.slice B vs.length d])
  obtain ⟨o, ho⟩ : ∃ z, openR nn vs view = z := ⟨_, rfl⟩
  obtain ⟨q1, hq1⟩ : ∃ z, sizeB nn = z := ⟨_, rfl⟩
  obtain ⟨q2, hq2⟩ : ∃ z, tallyOkB vs = z := ⟨_, rfl⟩
  obtain ⟨st, hst⟩ : ∃ z, strongR nn = z := ⟨_, rfl⟩
  have HOP : Hid (∀ W, Rd3 W W.heap.size B vs → Calls Try.prog 32 #[.int .i64 nn, .agg #[.slice B vs.length d], .int .i64 view] W fun e w' => e = .returned (.bool o) ∧ Below W.heap.size W w') := fun W h => (by have := implOpen_any nn view hwv B d vs W h (by omega); rwa [ho] at this)
  have HSZ : Hid (∀ W, Calls Try.prog 19 #[.int .i64 nn] W fun e w' => e = .returned (.bool q1) ∧ w' = W) := fun W => specSize_is nn q1 hq1 W
  have HTO : Hid (∀ W, Rd3 W W.heap.size B vs → Calls Try.prog 20 #[.agg #[.slice B vs.length d]] W fun e w' => e = .returned (.bool q2) ∧ Below W.heap.size W w') := fun W h => specTallyOk_is q2 B d vs hq2 W h (by omega)
  have HST : Hid (∀ W, Calls Try.prog 34 #[.int .i64 nn] W fun e w' => e = .returned (.int .i64 st) ∧ w' = W) := fun W => (by have := specStrong_any nn W; rwa [hst] at this)
  have HWI := Lib.hid (fun (W : World) (h : Rd3 W W.heap.size B vs) => implWinner_any view st hwv B d vs W h (by omega))
  have HSI := Lib.hid (fun (W : World) (h : Rd3 W W.heap.size B vs) => specSilent_any nn view B d vs W h (by omega))
  obtain ⟨m, hmv⟩ : ∃ m, vs.length = m := ⟨_, rfl⟩
  rw [hmv] at HOP HTO HWI HSI hr1 hB1 kt1 hul ⊢
  have HM := Lib.hid hmv
  clear hmv hot hB0 HD hn3
  have rt := kt1.out.rule
  go_wp2_with fail
  have hr1 := hr1.out
  have hB1 := hB1.out
  have kt1 := kt1.out
  clear rt
  generalize w0.alloc (.cells #[.slice B m d] 44) = w1 at *
  have hr1 := Lib.hid hr1
  have hB1 := Lib.hid hB1
  have kt1 := Lib.hid kt1
  have rt := kt1.out.rule
  refine (HOP.out w1 hr1.out).mono ?_
  rintro e w2 ⟨rfl, hb2⟩
  have hB2 := Lib.hid (on_ hB1.out hb2)
  have hr2 := Lib.hid (hr1.out.on hb2)
  have kt2 := Lib.hid (kt1.out.on hb2)
  have rt := kt2.out.rule
  clear hb2 hB1 hr1 kt1
  rcases q1 with _ | _
  · have ho0 : o = false := by rw [← ho, openR, hq1]; rfl
    subst ho0
    go_wp2_with fail
    refine (HSZ.out w2).mono ?_
    rintro e wz ⟨rfl, hwz⟩
    have hwz' := hwz.symm
    clear hwz
    subst hwz'
    go_wp2_with fail
    refine (tallies_any _).mono ?_
    rintro e wz ⟨rfl, hbz⟩
    have hBz := on_ hB2.out hbz
    go_wp2
    go_ret
    exact ⟨rfl, hBz⟩
  go_wp2_with fail
  refine (HSZ.out w2).mono ?_
  rintro e wz ⟨rfl, hwz⟩
  have hwz' := hwz.symm
  clear hwz
  subst hwz'
  rcases q2 with _ | _
  · have ho0 : o = false := by rw [← ho, openR, hq1, hq2]; rfl
    subst ho0
    go_wp2_with fail
    refine (HTO.out w2 hr2.out).mono ?_
    rintro e w3 ⟨rfl, hb3⟩
    have hB3 := Lib.hid (on_ hB2.out hb3)
    have hr3 := Lib.hid (hr2.out.on hb3)
    have kt3 := Lib.hid (kt2.out.on hb3)
    have rt := kt3.out.rule
    clear hb3 hB2 hr2 kt2
    go_wp2_with fail
    refine (tallies_any _).mono ?_
    rintro e wz ⟨rfl, hbz⟩
    have hBz := on_ hB3.out hbz
    go_wp2
    go_ret
    exact ⟨rfl, hBz⟩
  go_wp2_with fail
  refine (HTO.out w2 hr2.out).mono ?_
  rintro e w3 ⟨rfl, hb3⟩
  have hB3 := Lib.hid (on_ hB2.out hb3)
  have hr3 := Lib.hid (hr2.out.on hb3)
  have kt3 := Lib.hid (kt2.out.on hb3)
  have rt := kt3.out.rule
  clear hb3 hB2 hr2 kt2
  have hfa := open_facts nn view vs hq1 hq2
  rw [hst, ho] at hfa
  obtain ⟨k, hk⟩ : ∃ k, winnerK vs view st = k := ⟨_, rfl⟩
  rw [hk] at HWI hfa
  obtain ⟨wv, hwv2⟩ : ∃ z, winV k = z := ⟨_, rfl⟩
  obtain ⟨wq, hwq⟩ : ∃ z, k.isSome = z := ⟨_, rfl⟩
  rw [hwv2, hwq] at HWI
  rw [hwq] at hfa
  obtain ⟨xs, hxs⟩ : ∃ z, silentR nn vs view = z := ⟨_, rfl⟩
  rw [hxs] at HSI hfa
  have hxl : xs.length ≤ 7 := by
    rw [← hxs]
    unfold silentR
    split
    · have h1 := silentK_le vs view nn.toNat
      have h2 := size_two hq1
      omega
    · simp
  have HFA := Lib.hid hfa
  clear hfa hk hwv2 hwq hxs ho hq1 hq2 hst HOP HSZ HTO
  go_wp2_with fail
  have lt := lat_blk kt3.out
  refine wp_region_lat (by kernel_rfl) (by kernel_rfl) ?_
  repeat (go_big_quiet_step ((first
    | (go_at_call 34; exact lat_same _ (HST.out _))
    | (go_at_call 33; with_reducible exact lat_call _ (HWI.out _ ((hr3.out.below (Lat.below _)).more (Lat.below _).size))))))
  refine wpQuiet_nil ?_
  rintro w4 ⟨⟨_, hb4⟩, rfl⟩
  clear lt rt
  have hB4 := Lib.hid (on_ hB3.out hb4)
  have hr4 := Lib.hid (hr3.out.on hb4)
  have kt4 := Lib.hid (kt3.out.on hb4)
  have rt := kt4.out.rule
  clear hb4 hB3 hr3 kt3 HWI HST
  have HSI4 : Hid (Calls Try.prog 35 #[.int .i64 nn, .agg #[.slice B m d], .int .i64 view] w4 fun e w' => ∃ B5 d5, e = .returned (.slice B5 xs.length d5) ∧ Below w4.heap.size w4 w') := by
    refine (HSI.out _ hr4.out).mono fun e w' h => ?_
    obtain ⟨v5, rfl, hown5, hb5⟩ := h
    obtain ⟨B5, d5, rfl⟩ := form1 hown5
    exact ⟨B5, d5, rfl, hb5⟩
  have hsome : wq = true → o = true := HFA.out.1
  have hzero : xs.length = 0 → o = wq := HFA.out.2
  by_cases hx0 : xs.length = 0
  · have hoq := hzero hx0
    subst hoq
    obtain rfl : xs = [] := List.eq_nil_of_length_eq_zero hx0
    have dx : decide ((0 : Int) < ((0 : Nat) : Int)) = false := by decide
    rw [List.length_nil] at HSI4
    have hqq : (o == o) = true := by simp
    clear hx0 hsome hzero HFA HSI
    rcases o with _ | _
    · go_wp2_with fail
      refine HSI4.out.mono ?_
      rintro e w5 ⟨B5, d5, rfl, hb5⟩
      have hB5 := Lib.hid (on_ hB4.out hb5)
      clear hb5 HSI4 hB4 hr4
      go_wp2_with fail
      refine (tallies_any _).mono ?_
      rintro e wz ⟨rfl, hbz⟩
      have hBz := on_ hB5.out hbz
      go_wp2
      go_ret
      exact ⟨rfl, hBz⟩
    · go_wp2_with fail
      refine HSI4.out.mono ?_
      rintro e w5 ⟨B5, d5, rfl, hb5⟩
      have hB5 := Lib.hid (on_ hB4.out hb5)
      clear hb5 HSI4 hB4 hr4
      go_wp2_with fail
      refine (tallies_any _).mono ?_
      rintro e wz ⟨rfl, hbz⟩
      have hBz := on_ hB5.out hbz
      go_wp2
      go_ret
      exact ⟨rfl, hBz⟩
  · obtain ⟨L, hL⟩ : ∃ L, xs.length = L + 1 := ⟨xs.length - 1, by omega⟩
    rw [hL] at HSI4
    have dx : decide ((0 : Int) < (L : Int) + 1) = true := decide_eq_true (by omega)
    have dx2 : (0 : Int) < (L : Int) + 1 := by omega
    clear hx0 hzero HFA HSI hL hxl
    rcases wq with _ | _
    · go_wp2_with fail
      refine HSI4.out.mono ?_
      rintro e w5 ⟨B5, d5, rfl, hb5⟩
      have hB5 := Lib.hid (on_ hB4.out hb5)
      clear hb5 HSI4 hB4 hr4
      go_wp2_with fail
      refine (tallies_any _).mono ?_
      rintro e wz ⟨rfl, hbz⟩
      have hBz := on_ hB5.out hbz
      go_wp2
      go_ret
      exact ⟨rfl, hBz⟩
    · have hoo := hsome rfl
      subst hoo
      go_wp2_with fail
      refine HSI4.out.mono ?_
      rintro e w5 ⟨B5, d5, rfl, hb5⟩
      have hB5 := Lib.hid (on_ hB4.out hb5)
      clear hb5 HSI4 hB4 hr4
      go_wp2_with fail
      refine (tallies_any _).mono ?_
      rintro e wz ⟨rfl, hbz⟩
      have hBz := on_ hB5.out hbz
      go_wp2
      go_ret
      exact ⟨rfl, hBz⟩

theorem closed : joinedFacts Try.prog 8 Try.f8 Rows.fnOpensSpec Rows.fnOpensRow = true := by
  unfold joinedFacts
  rw [D.make_is, D.enter_is, D.final_is]
  kernel_rfl

set_option maxRecDepth 100000 in
theorem lifted (os : Os) (started : os.Started) (H : Type) (enc : TypeId × Value → H) :
    ReturnsInHanded {} Try.checked os 8 .any (Rows.fnOpensSpec.pre6 enc Try.prog Try.f8 Rows.fnOpensRow.domain false) (Rows.fnOpensSpec.post enc Try.prog Try.f8 false true false false) := by
  refine returnsInHanded_of_change (C := Try.checked) D.own started (by kernel_rfl) Try.func8
    (ChangeSpec.witness6 (enc := enc) (C := Try.checked) false ⟨#[], #[.slice none 0 0], []⟩ 8 (by kernel_rfl) (by kernel_rfl) (by kernel_rfl) (by kernel_rfl)) ?_
  intro W base args ds gs before hval0 hW hcnd _
  have hval : ∀ (j : Nat) t v, Try.f8.params[j]? = some t → args[j]? = some v → Value.okWide Try.prog W .any base t v := hval0
  have hW' := hW
  obtain ⟨p, q, hA0, hV, rfl, hfz, hnd⟩ := hW
  have hA : DataW.TrodAll enc Try.prog W 0 (fun _ => true) true Try.f8.params.toList args.toList ds p := hA0
  rw [Try.params8] at hA hval
  obtain ⟨v0, d0, rfl, rfl, h0⟩ := trodAll_one hA
  obtain ⟨a0, len0, cap0, rfl⟩ := okWide_slice Try.underlying22 (hval 0 22 v0 rfl rfl)
  obtain ⟨fuel0, hf0⟩ := h0
  obtain ⟨Ab, nb, cb, hcs0, hmb, hrb⟩ := open_code hf0
  have hv0 : (Value.slice a0 len0 cap0) = .slice Ab nb cb := by simpa [Value.cells] using hcs0
  rw [hv0] at hW' ⊢
  refine (walk Ab nb cb hmb W hrb).mono fun e W' ⟨he, hb⟩ => ⟨_, he, law_post D.laidOut hW' hb rfl (by kernel_rfl) Try.underlying4 (by kernel_rfl) rfl⟩

theorem over : Rows.fnOpensRow.holds Try.pinned (OpenSpec.ofChange Rows.fnOpensSpec) :=
  OpenClaim.holds_of_wide 8 Try.f8 rfl rfl rfl rfl rfl rfl rfl ⟨rfl, rfl, rfl, rfl, rfl⟩ rfl rfl rfl rfl rfl (by kernel_rfl) Try.func8 closed
    (of_decide_eq_true (by kernel_rfl)) (by unfold Func.isWrapper; first | (rw [if_pos (by decide +kernel)]; kernel_rfl) | (rw [if_neg (by decide +kernel)]; exact ⟨rfl, rfl⟩))
    (fun os started H enc _ => lifted os started H enc)

theorem proved : Rows.FnOpensSaid :=
  over
end Go.Proofs.Ytaegcdbgnjlbdaa.fnOpens
