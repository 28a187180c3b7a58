/-
  Proved here: for whatever bytes of a draw, the law FnSafes (a safe value remains safe when a report is added; if the reports are free every value is safe, else only one with grounds; safety needs a strong quorum of reports) answers true. No condition.
-/
import Derived.Test.YtcfjmhebhhekbaaRows
import Derived.Test.YtcfjmhebhhekbaaDoor
import Derived.Test.YtcfjmhebhhekbaaDrawAdd
import Derived.Test.YtcfjmhebhhekbaaRIns
import Derived.Test.YtcfjmhebhhekbaaRImpl
import Derived.Test.YtcfjmhebhhekbaaReports
import Derived.Test.YtcfjmhebhhekbaaMore
import Derived.Test.YtcfjmhebhhekbaaLift
import Derived.SizedLaws
set_option linter.unusedVariables false
set_option maxRecDepth 100000
namespace Go.Proofs.Ytcfjmhebhhekbaa.fnSafes
open Go.RowKit Go.ChangeShapes Go.WideShapes Go.Proofs.Ytcfjmhebhhekbaa.B Go.Proofs.Ytcfjmhebhhekbaa.V

set_option maxHeartbeats 3200000 in
theorem walk (A : Option Addr) (nb c : Nat) (hm : nb + 2 ≤ 140737488355328) (w : World) (hr : RdC w w.heap.size A nb) :
    Calls Try.prog 4 #[.slice A nb c] w fun e w' => e = .returned (.bool true) ∧ Below w.heap.size w w' := by
  have HD := Lib.hid (drawSafe_any A nb c (by unfold maxLen; omega) w hr)
  have HMORE := Lib.hid (fun (W : World) (h : Below w.heap.size w W) => more_any A nb c hm W ((hr.below h).more h.size))
  have HRC := Lib.hid hr
  clear hr
  go_enter Try.func4, Try.ntmps4
  go_wp2_with fail
  refine HD.out.mono ?_
  rintro e w1 ⟨n, view, B, d, ps, x, hx, rfl, hok, hr1, hB1⟩
  have hf0 := hok.few
  have hr1 := Lib.hid hr1
  have hB1 := Lib.hid hB1
  obtain ⟨val, hval⟩ : ∃ v : Int, (x : Int) = v := ⟨_, rfl⟩
  rw [hval]
  clear hval hx HD
  obtain ⟨s, hs⟩ : ∃ z, safeT n view (rl ps) val = z := ⟨_, rfl⟩
  obtain ⟨fr, hfr⟩ : ∃ z, freeT n view (rl ps) = z := ⟨_, rfl⟩
  obtain ⟨q1, hq1⟩ : ∃ z, repsOkB n view (rl ps) = z := ⟨_, rfl⟩
  obtain ⟨q2, hq2⟩ : ∃ z, valOkB val = z := ⟨_, rfl⟩
  obtain ⟨g, hg⟩ : ∃ z, groundsT n view (rl ps) val = z := ⟨_, rfl⟩
  obtain ⟨st, hst⟩ : ∃ z, strongR n = z := ⟨_, rfl⟩
  have HSA : Hid (∀ W, RdR W W.heap.size B ps → Calls Try.prog 13 #[.int .i64 n, .int .i64 view, .slice B ps.length d, .int .i64 val] W fun e w' => e = .returned (.bool s) ∧ Below W.heap.size W w') := fun W h => safe_is_ s n view val B d ps hs W h hf0
  have HFR : Hid (∀ W, RdR W W.heap.size B ps → Calls Try.prog 16 #[.int .i64 n, .int .i64 view, .slice B ps.length d] W fun e w' => e = .returned (.bool fr) ∧ Below W.heap.size W w') := fun W h => free_is_ fr n view B d ps hfr W h hf0
  have HRO : Hid (∀ W, RdR W W.heap.size B ps → Calls Try.prog 14 #[.int .i64 n, .int .i64 view, .slice B ps.length d] W fun e w' => e = .returned (.bool q1) ∧ Below W.heap.size W w') := fun W h => specReportsOk_is q1 n view B d ps hq1 W h hf0
  have HGR : Hid (∀ W, RdR W W.heap.size B ps → Calls Try.prog 17 #[.int .i64 n, .int .i64 view, .slice B ps.length d, .int .i64 val] W fun e w' => e = .returned (.int .i64 g) ∧ Below W.heap.size W w') := fun W h => (by have := implGrounds_any n view val B d ps _ rfl W h hf0; rwa [hg] at this)
  have HVA : Hid (∀ W, Calls Try.prog 15 #[.int .i64 val] W fun e w' => e = .returned (.bool q2) ∧ w' = W) := fun W => specVal_is val q2 hq2 W
  have HSTR : Hid (∀ W, Calls Try.prog 18 #[.int .i64 n] W fun e w' => e = .returned (.int .i64 st) ∧ w' = W) := fun W => (by have := specStrong_any n W; rwa [hst] at this)
  go_wp2_with fail
  refine (HSA.out w1 hr1.out).mono ?_
  rintro e w2 ⟨rfl, hb2⟩
  have hB2 := Lib.hid (on_ hB1.out hb2)
  have hr2 := Lib.hid (hr1.out.on hb2)
  clear hb2 hB1 hr1
  go_wp2_with fail
  refine (HRO.out w2 hr2.out).mono ?_
  rintro e w3 ⟨rfl, hb3⟩
  have hB3 := Lib.hid (on_ hB2.out hb3)
  have hr3 := Lib.hid (hr2.out.on hb3)
  clear hb3 hB2 hr2
  rcases q1 with _ | _
  · have hs0 : s = false := by rw [← hs, safeT, hq1]; rfl
    subst hs0
    go_wp2_with fail
    refine (reports_is _).mono ?_
    rintro e wz ⟨rfl, hbz⟩
    have hBz := on_ hB3.out hbz
    go_wp2
    go_ret
    exact ⟨rfl, hBz⟩
  rcases q2 with _ | _
  · have hs0 : s = false := by rw [← hs, safeT, hq1, hq2]; rfl
    subst hs0
    go_wp2_with fail
    refine (HVA.out w3).mono ?_
    rintro e wz ⟨rfl, hwz⟩
    have hwz' := hwz.symm
    clear hwz
    subst hwz'
    go_wp2_with fail
    refine (reports_is _).mono ?_
    rintro e wz ⟨rfl, hbz⟩
    have hBz := on_ hB3.out hbz
    go_wp2
    go_ret
    exact ⟨rfl, hBz⟩
  go_wp2_with fail
  refine (HVA.out w3).mono ?_
  rintro e wz ⟨rfl, hwz⟩
  have hwz' := hwz.symm
  clear hwz
  subst hwz'
  have hsz := reps_size hq1
  have hn47 : n = 4 ∨ n = 7 := size_two hsz.1
  have hsr : safeR n view (rl ps) val = s := by rw [← hs, safeT, hq1, hq2]; rfl
  have hfr2 : freeR n (rl ps) = fr := by rw [← hfr, freeT, hq1]; rfl
  have hgr : groundsR n view (rl ps) val = g := by rw [← hg, groundsT, hq1]; rfl
  have hw := wit_facts hq1 val 0
  have hsup := sup_facts (n := n) (view := view) (rs := rl ps) val
  have HTAIL : Hid (∀ (f : Int) (WW : World) (A3 : Option Addr) (c3 : Nat) (vs3 : List (Int × Int)), vs3.length ≤ 10 → RdR WW WW.heap.size B ps → Rd WW WW.heap.size A3 vs3 → Below w.heap.size w WW → Calls Try.prog 9 #[.int .i64 n, .int .i64 view, .slice B ps.length d, .agg #[.int .i64 f, .int .i64 0, .int .i64 0, .slice A3 vs3.length c3]] WW fun e w' => ∃ B5 d5 ys qq, e = .returned (.tuple #[.slice B5 ys.length d5, .bool qq]) ∧ (qq = true → Few ys ∧ RdR w' w'.heap.size B5 ys ∧ (s = true → safeT n view (rl ys) val = true)) ∧ Below w.heap.size w w') := fun f WW A3 c3 vs3 h1 h2 h3 h4 => by
    refine (implAdd_any n view B d ps _ rfl f 0 0 A3 c3 vs3 WW h2 hf0 h3 (by omega)).mono ?_
    rintro e w' ⟨B5, d5, ys, gs, rfl, hog, hyl, hb⟩
    refine ⟨B5, d5, ys, _, rfl, fun hq => ?_, on_ h4 hb⟩
    rcases add_cases n view (rl ps) ⟨f, 0, 0, vs3⟩ (fun _ _ _ => ⟨_, placeX_le _ _, rfl⟩) with ⟨hq1', _⟩ | ⟨_, hs', hq1', hq2', hx'⟩
    · rw [hq1'] at hq; cases hq
    · have hys : rl ys = insX (rl ps) (placeX (rl ps) f) ⟨f, 0, 0, vs3⟩ := by rw [hog.1, hs']
      refine ⟨ins_few hok h1 hys, hog.rd, fun hss => ?_⟩
      have hq3 := ins_ok (p := ⟨⟨f, 0, 0, vs3⟩, A3, c3⟩) hq1' hq2' hx'
      rw [hys]
      unfold safeT
      rw [hq3, hq2, safe_ins n view val _ _ _ (by rw [hsr]; exact hss)]
      rfl
  have hsf : fr = true → s = true := fun h => by rw [← hsr, safeR, hfr2, h]; rfl
  have hsg : s = true → fr = false → 0 ≤ g := fun h1 h2 => by
    rw [← hsr, safeR, hfr2, h2] at h1
    simp only [Bool.false_or, Bool.and_eq_true, decide_eq_true_eq] at h1
    rw [← hgr]; exact h1.1
  have hsl : s = true → st ≤ (ps.length : Int) := fun h => by
    have h1 := hsup.2.2 (by rw [hsr]; exact h)
    have h2 := hsup.2.1
    rw [hst] at h1
    rw [rl_len] at h2
    omega
  have HSF := Lib.hid hsf
  have HSG := Lib.hid hsg
  have HSL := Lib.hid hsl
  clear hs hfr hq1 hq2 hg hst hsr hfr2 hgr hw hsup hsf hsg hsl hsz hok hf0 HSA HRO HVA
  go_wp2_with fail
  refine (HFR.out w3 hr3.out).mono ?_
  rintro e w4 ⟨rfl, hb4⟩
  have hB4 := Lib.hid (on_ hB3.out hb4)
  have hr4 := Lib.hid (hr3.out.on hb4)
  clear hb4 hB3 hr3
  rcases s with _ | _
  · have hfr0 : fr = false := by
      cases fr with
      | false => rfl
      | true => exact absurd (HSF.out rfl) (by simp)
    subst hfr0
    clear HSF HSG HSL HGR HFR HSTR
    go_wp2_with fail
    refine (HMORE.out w4 hB4.out).mono ?_
    rintro e w20 ⟨C, dc, rfl, hrc, hb20⟩
    have HDA := Lib.hid (drawAdd_any C (nb + 2) dc (by unfold maxLen; omega) w20 hrc)
    have hB20 := Lib.hid (on_ hB4.out hb20)
    have hr20 := Lib.hid (hr4.out.on hb20)
    clear hb20 hrc hB4 hr4
    go_wp2_with fail
    refine HDA.out.mono ?_
    rintro e w21 ⟨n2, view2, B2, d2, ps2, f2, A2, c2, vs, rfl, -, -, -, hvl, -, hv21, hb21⟩
    have hB21 := Lib.hid (on_ hB20.out hb21)
    have hr21 := Lib.hid (hr20.out.on hb21)
    have hv21 := Lib.hid hv21
    have kb22 := Blk.new w21 28 #[.int .i64 f2, .int .i64 0, .int .i64 0, .slice A2 vs.length c2]
    have hb22 : Below w21.heap.size w21 (w21.alloc (.cells #[.int .i64 f2, .int .i64 0, .int .i64 0, .slice A2 vs.length c2] 28)) := up_ (Below.refl _ _) _
    clear hb21 hB20 hr20 HDA
    have kb22 := Lib.hid kb22
    have hb22 := Lib.hid hb22
    go_wp2_with fail
    have kb22 := kb22.out
    have hb22 := hb22.out
    generalize w21.alloc (.cells #[.int .i64 f2, .int .i64 0, .int .i64 0, .slice A2 vs.length c2] 28) = w22 at *
    have hbc := on_ hB21.out hb22
    refine (at_any A nb c 3 (by omega) w22 (by unfold maxLen; omega) ((HRC.out.below hbc).more hbc.size)).mono ?_
    rintro e w23 ⟨y, hy, rfl, rfl⟩
    clear hbc
    have kc := kb22.rule
    have kf := fun i => kb22.frozen i
    have hrem : (y : Int).tmod n = (y : Int) % n := Int.tmod_eq_emod_of_nonneg (by omega)
    have hnz : (n : Int) ≠ 0 := by omega
    have hz : ((n : Int) == 0) = false := by simpa using hnz
    obtain ⟨f, hf⟩ : ∃ f : Int, (y : Int) % n = f := ⟨_, rfl⟩
    have HTAIL := Lib.hid (HTAIL.out f)
    by_cases hvv : view < view2
    · have d1 : decide (view < view2) = true := decide_eq_true hvv
      have r3 := ((((kb22.set_ 0 (.int .i64 f)).set_ 3 (.slice none 0 0)).set_ 1 (.int .i64 0)).set_ 2 (.int .i64 0)).rule
      have hbW : Below w21.heap.size w21 ((((w22.setCell ⟨w21.heap.size, 0, none⟩ (.int .i64 f)).setCell ⟨w21.heap.size, 3, none⟩ (.slice none 0 0)).setCell ⟨w21.heap.size, 1, none⟩ (.int .i64 0)).setCell ⟨w21.heap.size, 2, none⟩ (.int .i64 0)) := (((hb22.setCell (Nat.le_refl _) _).setCell (Nat.le_refl _) _).setCell (Nat.le_refl _) _).setCell (Nat.le_refl _) _
      have hrW := (hr21.out.below hbW).more hbW.size
      have hvW : Rd ((((w22.setCell ⟨w21.heap.size, 0, none⟩ (.int .i64 f)).setCell ⟨w21.heap.size, 3, none⟩ (.slice none 0 0)).setCell ⟨w21.heap.size, 1, none⟩ (.int .i64 0)).setCell ⟨w21.heap.size, 2, none⟩ (.int .i64 0)) (((((w22.setCell ⟨w21.heap.size, 0, none⟩ (.int .i64 f)).setCell ⟨w21.heap.size, 3, none⟩ (.slice none 0 0)).setCell ⟨w21.heap.size, 1, none⟩ (.int .i64 0)).setCell ⟨w21.heap.size, 2, none⟩ (.int .i64 0))).heap.size none [] := Rd.nil_
      have hBW := on_ hB21.out hbW
      have HADD := Lib.hid (HTAIL.out ((((w22.setCell ⟨w21.heap.size, 0, none⟩ (.int .i64 f)).setCell ⟨w21.heap.size, 3, none⟩ (.slice none 0 0)).setCell ⟨w21.heap.size, 1, none⟩ (.int .i64 0)).setCell ⟨w21.heap.size, 2, none⟩ (.int .i64 0)) none 0 [] (by first | exact hvl | simp) hrW hvW hBW)
      clear hbW hrW hvW hBW HTAIL hr21 hv21 hB21
      go_wp2_with fail
      refine HADD.out.mono ?_
      rintro e w30 ⟨B5, d5, ys, qq, rfl, hqq, hb30⟩
      have hB30 := Lib.hid hb30
      have HQ := Lib.hid hqq
      clear hb30 hqq HADD kc kf
      rcases qq with _ | _
      · go_wp2_with fail
        refine (reports_is _).mono ?_
        rintro e wz ⟨rfl, hbz⟩
        have hBz := on_ hB30.out hbz
        go_wp2
        go_ret
        exact ⟨rfl, hBz⟩
      · go_wp2_with fail
        refine (reports_is _).mono ?_
        rintro e wz ⟨rfl, hbz⟩
        have hBz := on_ hB30.out hbz
        go_wp2
        go_ret
        exact ⟨rfl, hBz⟩
    · have d1 : decide (view < view2) = false := decide_eq_false hvv
      have r3 := (kb22.set_ 0 (.int .i64 f)).rule
      have hbW : Below w21.heap.size w21 (w22.setCell ⟨w21.heap.size, 0, none⟩ (.int .i64 f)) := hb22.setCell (Nat.le_refl _) _
      have hrW := (hr21.out.below hbW).more hbW.size
      have hvW : Rd (w22.setCell ⟨w21.heap.size, 0, none⟩ (.int .i64 f)) ((w22.setCell ⟨w21.heap.size, 0, none⟩ (.int .i64 f))).heap.size A2 vs := (hv21.out.below hbW).more hbW.size
      have hBW := on_ hB21.out hbW
      have HADD := Lib.hid (HTAIL.out (w22.setCell ⟨w21.heap.size, 0, none⟩ (.int .i64 f)) A2 c2 vs (by first | exact hvl | simp) hrW hvW hBW)
      clear hbW hrW hvW hBW HTAIL hr21 hv21 hB21
      go_wp2_with fail
      refine HADD.out.mono ?_
      rintro e w30 ⟨B5, d5, ys, qq, rfl, hqq, hb30⟩
      have hB30 := Lib.hid hb30
      have HQ := Lib.hid hqq
      clear hb30 hqq HADD kc kf
      rcases qq with _ | _
      · go_wp2_with fail
        refine (reports_is _).mono ?_
        rintro e wz ⟨rfl, hbz⟩
        have hBz := on_ hB30.out hbz
        go_wp2
        go_ret
        exact ⟨rfl, hBz⟩
      · go_wp2_with fail
        refine (reports_is _).mono ?_
        rintro e wz ⟨rfl, hbz⟩
        have hBz := on_ hB30.out hbz
        go_wp2
        go_ret
        exact ⟨rfl, hBz⟩
  · have hlen := HSL.out rfl
    have dl : decide ((ps.length : Int) < st) = false := decide_eq_false (by omega)
    rcases fr with _ | _
    · have hg0 := HSG.out rfl rfl
      have dg : decide (g < 0) = false := decide_eq_false (by omega)
      clear HSF HSG HSL hlen hg0
      go_wp2_with fail
      refine (HFR.out w4 hr4.out).mono ?_
      rintro e w5 ⟨rfl, hb5⟩
      have hB5 := Lib.hid (on_ hB4.out hb5)
      have hr5 := Lib.hid (hr4.out.on hb5)
      clear hb5 hB4 hr4
      go_wp2_with fail
      refine (HGR.out w5 hr5.out).mono ?_
      rintro e w6 ⟨rfl, hb6⟩
      have hB6 := Lib.hid (on_ hB5.out hb6)
      have hr6 := Lib.hid (hr5.out.on hb6)
      clear hb6 hB5 hr5
      go_wp2_with fail
      refine (HSTR.out w6).mono ?_
      rintro e wz ⟨rfl, hwz⟩
      have hwz' := hwz.symm
      clear hwz
      subst hwz'
      go_wp2_with fail
      refine (HMORE.out w6 hB6.out).mono ?_
      rintro e w20 ⟨C, dc, rfl, hrc, hb20⟩
      have HDA := Lib.hid (drawAdd_any C (nb + 2) dc (by unfold maxLen; omega) w20 hrc)
      have hB20 := Lib.hid (on_ hB6.out hb20)
      have hr20 := Lib.hid (hr6.out.on hb20)
      clear hb20 hrc hB6 hr6
      go_wp2_with fail
      refine HDA.out.mono ?_
      rintro e w21 ⟨n2, view2, B2, d2, ps2, f2, A2, c2, vs, rfl, -, -, -, hvl, -, hv21, hb21⟩
      have hB21 := Lib.hid (on_ hB20.out hb21)
      have hr21 := Lib.hid (hr20.out.on hb21)
      have hv21 := Lib.hid hv21
      have kb22 := Blk.new w21 28 #[.int .i64 f2, .int .i64 0, .int .i64 0, .slice A2 vs.length c2]
      have hb22 : Below w21.heap.size w21 (w21.alloc (.cells #[.int .i64 f2, .int .i64 0, .int .i64 0, .slice A2 vs.length c2] 28)) := up_ (Below.refl _ _) _
      clear hb21 hB20 hr20 HDA
      have kb22 := Lib.hid kb22
      have hb22 := Lib.hid hb22
      go_wp2_with fail
      have kb22 := kb22.out
      have hb22 := hb22.out
      generalize w21.alloc (.cells #[.int .i64 f2, .int .i64 0, .int .i64 0, .slice A2 vs.length c2] 28) = w22 at *
      have hbc := on_ hB21.out hb22
      refine (at_any A nb c 3 (by omega) w22 (by unfold maxLen; omega) ((HRC.out.below hbc).more hbc.size)).mono ?_
      rintro e w23 ⟨y, hy, rfl, rfl⟩
      clear hbc
      have kc := kb22.rule
      have kf := fun i => kb22.frozen i
      have hrem : (y : Int).tmod n = (y : Int) % n := Int.tmod_eq_emod_of_nonneg (by omega)
      have hnz : (n : Int) ≠ 0 := by omega
      have hz : ((n : Int) == 0) = false := by simpa using hnz
      obtain ⟨f, hf⟩ : ∃ f : Int, (y : Int) % n = f := ⟨_, rfl⟩
      have HTAIL := Lib.hid (HTAIL.out f)
      by_cases hvv : view < view2
      · have d1 : decide (view < view2) = true := decide_eq_true hvv
        have r3 := ((((kb22.set_ 0 (.int .i64 f)).set_ 3 (.slice none 0 0)).set_ 1 (.int .i64 0)).set_ 2 (.int .i64 0)).rule
        have hbW : Below w21.heap.size w21 ((((w22.setCell ⟨w21.heap.size, 0, none⟩ (.int .i64 f)).setCell ⟨w21.heap.size, 3, none⟩ (.slice none 0 0)).setCell ⟨w21.heap.size, 1, none⟩ (.int .i64 0)).setCell ⟨w21.heap.size, 2, none⟩ (.int .i64 0)) := (((hb22.setCell (Nat.le_refl _) _).setCell (Nat.le_refl _) _).setCell (Nat.le_refl _) _).setCell (Nat.le_refl _) _
        have hrW := (hr21.out.below hbW).more hbW.size
        have hvW : Rd ((((w22.setCell ⟨w21.heap.size, 0, none⟩ (.int .i64 f)).setCell ⟨w21.heap.size, 3, none⟩ (.slice none 0 0)).setCell ⟨w21.heap.size, 1, none⟩ (.int .i64 0)).setCell ⟨w21.heap.size, 2, none⟩ (.int .i64 0)) (((((w22.setCell ⟨w21.heap.size, 0, none⟩ (.int .i64 f)).setCell ⟨w21.heap.size, 3, none⟩ (.slice none 0 0)).setCell ⟨w21.heap.size, 1, none⟩ (.int .i64 0)).setCell ⟨w21.heap.size, 2, none⟩ (.int .i64 0))).heap.size none [] := Rd.nil_
        have hBW := on_ hB21.out hbW
        have HADD := Lib.hid (HTAIL.out ((((w22.setCell ⟨w21.heap.size, 0, none⟩ (.int .i64 f)).setCell ⟨w21.heap.size, 3, none⟩ (.slice none 0 0)).setCell ⟨w21.heap.size, 1, none⟩ (.int .i64 0)).setCell ⟨w21.heap.size, 2, none⟩ (.int .i64 0)) none 0 [] (by first | exact hvl | simp) hrW hvW hBW)
        clear hbW hrW hvW hBW HTAIL hr21 hv21 hB21
        go_wp2_with fail
        refine HADD.out.mono ?_
        rintro e w30 ⟨B5, d5, ys, qq, rfl, hqq, hb30⟩
        have hB30 := Lib.hid hb30
        have HQ := Lib.hid hqq
        clear hb30 hqq HADD kc kf
        rcases qq with _ | _
        · go_wp2_with fail
          refine (reports_is _).mono ?_
          rintro e wz ⟨rfl, hbz⟩
          have hBz := on_ hB30.out hbz
          go_wp2
          go_ret
          exact ⟨rfl, hBz⟩
        · obtain ⟨hfy, hry, hsy⟩ := HQ.out rfl
          have hst := hsy (by simp)
          clear HQ hsy
          go_wp2_with fail
          refine (safe_is_ true n view val B5 d5 ys hst w30 hry hfy).mono ?_
          rintro e w31 ⟨rfl, hb31⟩
          have hB31 := Lib.hid (on_ hB30.out hb31)
          clear hb31 hry
          go_wp2_with fail
          refine (reports_is _).mono ?_
          rintro e wz ⟨rfl, hbz⟩
          have hBz := on_ hB31.out hbz
          go_wp2
          go_ret
          exact ⟨rfl, hBz⟩
      · have d1 : decide (view < view2) = false := decide_eq_false hvv
        have r3 := (kb22.set_ 0 (.int .i64 f)).rule
        have hbW : Below w21.heap.size w21 (w22.setCell ⟨w21.heap.size, 0, none⟩ (.int .i64 f)) := hb22.setCell (Nat.le_refl _) _
        have hrW := (hr21.out.below hbW).more hbW.size
        have hvW : Rd (w22.setCell ⟨w21.heap.size, 0, none⟩ (.int .i64 f)) ((w22.setCell ⟨w21.heap.size, 0, none⟩ (.int .i64 f))).heap.size A2 vs := (hv21.out.below hbW).more hbW.size
        have hBW := on_ hB21.out hbW
        have HADD := Lib.hid (HTAIL.out (w22.setCell ⟨w21.heap.size, 0, none⟩ (.int .i64 f)) A2 c2 vs (by first | exact hvl | simp) hrW hvW hBW)
        clear hbW hrW hvW hBW HTAIL hr21 hv21 hB21
        go_wp2_with fail
        refine HADD.out.mono ?_
        rintro e w30 ⟨B5, d5, ys, qq, rfl, hqq, hb30⟩
        have hB30 := Lib.hid hb30
        have HQ := Lib.hid hqq
        clear hb30 hqq HADD kc kf
        rcases qq with _ | _
        · go_wp2_with fail
          refine (reports_is _).mono ?_
          rintro e wz ⟨rfl, hbz⟩
          have hBz := on_ hB30.out hbz
          go_wp2
          go_ret
          exact ⟨rfl, hBz⟩
        · obtain ⟨hfy, hry, hsy⟩ := HQ.out rfl
          have hst := hsy (by simp)
          clear HQ hsy
          go_wp2_with fail
          refine (safe_is_ true n view val B5 d5 ys hst w30 hry hfy).mono ?_
          rintro e w31 ⟨rfl, hb31⟩
          have hB31 := Lib.hid (on_ hB30.out hb31)
          clear hb31 hry
          go_wp2_with fail
          refine (reports_is _).mono ?_
          rintro e wz ⟨rfl, hbz⟩
          have hBz := on_ hB31.out hbz
          go_wp2
          go_ret
          exact ⟨rfl, hBz⟩
    · clear HSF HSG HSL hlen HGR
      go_wp2_with fail
      refine (HFR.out w4 hr4.out).mono ?_
      rintro e w5 ⟨rfl, hb5⟩
      have hB5 := Lib.hid (on_ hB4.out hb5)
      have hr5 := Lib.hid (hr4.out.on hb5)
      clear hb5 hB4 hr4
      go_wp2_with fail
      refine (HSTR.out w5).mono ?_
      rintro e wz ⟨rfl, hwz⟩
      have hwz' := hwz.symm
      clear hwz
      subst hwz'
      go_wp2_with fail
      refine (HMORE.out w5 hB5.out).mono ?_
      rintro e w20 ⟨C, dc, rfl, hrc, hb20⟩
      have HDA := Lib.hid (drawAdd_any C (nb + 2) dc (by unfold maxLen; omega) w20 hrc)
      have hB20 := Lib.hid (on_ hB5.out hb20)
      have hr20 := Lib.hid (hr5.out.on hb20)
      clear hb20 hrc hB5 hr5
      go_wp2_with fail
      refine HDA.out.mono ?_
      rintro e w21 ⟨n2, view2, B2, d2, ps2, f2, A2, c2, vs, rfl, -, -, -, hvl, -, hv21, hb21⟩
      have hB21 := Lib.hid (on_ hB20.out hb21)
      have hr21 := Lib.hid (hr20.out.on hb21)
      have hv21 := Lib.hid hv21
      have kb22 := Blk.new w21 28 #[.int .i64 f2, .int .i64 0, .int .i64 0, .slice A2 vs.length c2]
      have hb22 : Below w21.heap.size w21 (w21.alloc (.cells #[.int .i64 f2, .int .i64 0, .int .i64 0, .slice A2 vs.length c2] 28)) := up_ (Below.refl _ _) _
      clear hb21 hB20 hr20 HDA
      have kb22 := Lib.hid kb22
      have hb22 := Lib.hid hb22
      go_wp2_with fail
      have kb22 := kb22.out
      have hb22 := hb22.out
      generalize w21.alloc (.cells #[.int .i64 f2, .int .i64 0, .int .i64 0, .slice A2 vs.length c2] 28) = w22 at *
      have hbc := on_ hB21.out hb22
      refine (at_any A nb c 3 (by omega) w22 (by unfold maxLen; omega) ((HRC.out.below hbc).more hbc.size)).mono ?_
      rintro e w23 ⟨y, hy, rfl, rfl⟩
      clear hbc
      have kc := kb22.rule
      have kf := fun i => kb22.frozen i
      have hrem : (y : Int).tmod n = (y : Int) % n := Int.tmod_eq_emod_of_nonneg (by omega)
      have hnz : (n : Int) ≠ 0 := by omega
      have hz : ((n : Int) == 0) = false := by simpa using hnz
      obtain ⟨f, hf⟩ : ∃ f : Int, (y : Int) % n = f := ⟨_, rfl⟩
      have HTAIL := Lib.hid (HTAIL.out f)
      by_cases hvv : view < view2
      · have d1 : decide (view < view2) = true := decide_eq_true hvv
        have r3 := ((((kb22.set_ 0 (.int .i64 f)).set_ 3 (.slice none 0 0)).set_ 1 (.int .i64 0)).set_ 2 (.int .i64 0)).rule
        have hbW : Below w21.heap.size w21 ((((w22.setCell ⟨w21.heap.size, 0, none⟩ (.int .i64 f)).setCell ⟨w21.heap.size, 3, none⟩ (.slice none 0 0)).setCell ⟨w21.heap.size, 1, none⟩ (.int .i64 0)).setCell ⟨w21.heap.size, 2, none⟩ (.int .i64 0)) := (((hb22.setCell (Nat.le_refl _) _).setCell (Nat.le_refl _) _).setCell (Nat.le_refl _) _).setCell (Nat.le_refl _) _
        have hrW := (hr21.out.below hbW).more hbW.size
        have hvW : Rd ((((w22.setCell ⟨w21.heap.size, 0, none⟩ (.int .i64 f)).setCell ⟨w21.heap.size, 3, none⟩ (.slice none 0 0)).setCell ⟨w21.heap.size, 1, none⟩ (.int .i64 0)).setCell ⟨w21.heap.size, 2, none⟩ (.int .i64 0)) (((((w22.setCell ⟨w21.heap.size, 0, none⟩ (.int .i64 f)).setCell ⟨w21.heap.size, 3, none⟩ (.slice none 0 0)).setCell ⟨w21.heap.size, 1, none⟩ (.int .i64 0)).setCell ⟨w21.heap.size, 2, none⟩ (.int .i64 0))).heap.size none [] := Rd.nil_
        have hBW := on_ hB21.out hbW
        have HADD := Lib.hid (HTAIL.out ((((w22.setCell ⟨w21.heap.size, 0, none⟩ (.int .i64 f)).setCell ⟨w21.heap.size, 3, none⟩ (.slice none 0 0)).setCell ⟨w21.heap.size, 1, none⟩ (.int .i64 0)).setCell ⟨w21.heap.size, 2, none⟩ (.int .i64 0)) none 0 [] (by first | exact hvl | simp) hrW hvW hBW)
        clear hbW hrW hvW hBW HTAIL hr21 hv21 hB21
        go_wp2_with fail
        refine HADD.out.mono ?_
        rintro e w30 ⟨B5, d5, ys, qq, rfl, hqq, hb30⟩
        have hB30 := Lib.hid hb30
        have HQ := Lib.hid hqq
        clear hb30 hqq HADD kc kf
        rcases qq with _ | _
        · go_wp2_with fail
          refine (reports_is _).mono ?_
          rintro e wz ⟨rfl, hbz⟩
          have hBz := on_ hB30.out hbz
          go_wp2
          go_ret
          exact ⟨rfl, hBz⟩
        · obtain ⟨hfy, hry, hsy⟩ := HQ.out rfl
          have hst := hsy (by simp)
          clear HQ hsy
          go_wp2_with fail
          refine (safe_is_ true n view val B5 d5 ys hst w30 hry hfy).mono ?_
          rintro e w31 ⟨rfl, hb31⟩
          have hB31 := Lib.hid (on_ hB30.out hb31)
          clear hb31 hry
          go_wp2_with fail
          refine (reports_is _).mono ?_
          rintro e wz ⟨rfl, hbz⟩
          have hBz := on_ hB31.out hbz
          go_wp2
          go_ret
          exact ⟨rfl, hBz⟩
      · have d1 : decide (view < view2) = false := decide_eq_false hvv
        have r3 := (kb22.set_ 0 (.int .i64 f)).rule
        have hbW : Below w21.heap.size w21 (w22.setCell ⟨w21.heap.size, 0, none⟩ (.int .i64 f)) := hb22.setCell (Nat.le_refl _) _
        have hrW := (hr21.out.below hbW).more hbW.size
        have hvW : Rd (w22.setCell ⟨w21.heap.size, 0, none⟩ (.int .i64 f)) ((w22.setCell ⟨w21.heap.size, 0, none⟩ (.int .i64 f))).heap.size A2 vs := (hv21.out.below hbW).more hbW.size
        have hBW := on_ hB21.out hbW
        have HADD := Lib.hid (HTAIL.out (w22.setCell ⟨w21.heap.size, 0, none⟩ (.int .i64 f)) A2 c2 vs (by first | exact hvl | simp) hrW hvW hBW)
        clear hbW hrW hvW hBW HTAIL hr21 hv21 hB21
        go_wp2_with fail
        refine HADD.out.mono ?_
        rintro e w30 ⟨B5, d5, ys, qq, rfl, hqq, hb30⟩
        have hB30 := Lib.hid hb30
        have HQ := Lib.hid hqq
        clear hb30 hqq HADD kc kf
        rcases qq with _ | _
        · go_wp2_with fail
          refine (reports_is _).mono ?_
          rintro e wz ⟨rfl, hbz⟩
          have hBz := on_ hB30.out hbz
          go_wp2
          go_ret
          exact ⟨rfl, hBz⟩
        · obtain ⟨hfy, hry, hsy⟩ := HQ.out rfl
          have hst := hsy (by simp)
          clear HQ hsy
          go_wp2_with fail
          refine (safe_is_ true n view val B5 d5 ys hst w30 hry hfy).mono ?_
          rintro e w31 ⟨rfl, hb31⟩
          have hB31 := Lib.hid (on_ hB30.out hb31)
          clear hb31 hry
          go_wp2_with fail
          refine (reports_is _).mono ?_
          rintro e wz ⟨rfl, hbz⟩
          have hBz := on_ hB31.out hbz
          go_wp2
          go_ret
          exact ⟨rfl, hBz⟩

theorem code_size {H : Type} {enc : TypeId × Value → H} {w : World} {fuel : Nat} {cs : List Value} {x : DataW H × List MemPlace} (h : DataW.trod enc Try.prog w 0 (fun _ => true) true fuel 22 cs = some x) :
    cs = [.slice none 0 0] ∨ ∃ (a : Addr) (len cap : Nat) (el sp : List (DataW H)), cs = [.slice (some a) len cap] ∧ x.1 = .slice el sp ∧ len ≤ el.length := by
  rcases Go.Deep.open_slice1 Try.underlying22 (by kernel_rfl) h with ⟨rfl, _⟩ | ⟨a, len, cap, m, n, V, D, Pl, rfl, _, hl, hm, hmm, hx, _⟩
  · exact .inl rfl
  · exact .inr ⟨a, len, cap, _, _, rfl, by rw [hx], by simp⟩

theorem closed : joinedFacts Try.prog 4 Try.f4 Rows.fnSafesSpec Rows.fnSafesRow = true := by
  unfold joinedFacts
  rw [D.make_is, D.enter_is, D.final_is]
  kernel_rfl

set_option maxRecDepth 100000 in
theorem lifted (os : Os) (started : os.Started) (H : Type) (enc : TypeId × Value → H) :
    ReturnsInHanded {} Try.checked os 4 .any (Rows.fnSafesSpec.pre6 enc Try.prog Try.f4 Rows.fnSafesRow.domain false) (Rows.fnSafesSpec.post enc Try.prog Try.f4 false true false false) := by
  refine returnsInHanded_of_change_sized (C := Try.checked) D.own started (by kernel_rfl) Try.func4
    (ChangeSpec.witness6 (enc := enc) (C := Try.checked) false ⟨#[], #[.slice none 0 0], []⟩ 8 (by kernel_rfl) (by kernel_rfl) (by kernel_rfl) (by kernel_rfl)) ?_
  intro W base args ds gs before hval0 hW hcnd hsz0 _
  have hsz : (DataW.weightsEach Try.prog (Try.f4.params.toList ++ Rows.fnSafesSpec.plain.varTypes Try.prog) (ds ++ gs)).all (· ≤ reachBytes) = true := hsz0
  clear hsz0
  have hval : ∀ (j : Nat) t v, Try.f4.params[j]? = some t → args[j]? = some v → Value.okWide Try.prog W .any base t v := hval0
  have hW' := hW
  obtain ⟨p, q, hA0, hV, rfl, hfz, hnd⟩ := hW
  have hA : DataW.TrodAll enc Try.prog W 0 (fun _ => true) true Try.f4.params.toList args.toList ds p := hA0
  rw [Try.params4] at hA hval hsz
  obtain ⟨v0, d0, rfl, rfl, h0⟩ := trodAll_one hA
  obtain ⟨a0, len0, cap0, rfl⟩ := okWide_slice Try.underlying22 (hval 0 22 v0 rfl rfl)
  obtain ⟨fuel0, hf0⟩ := h0
  obtain ⟨Ab, nb, cb, hcs0, hmb, hrb⟩ := open_code hf0
  have hreach : nb + 2 ≤ 140737488355328 := by
    rcases code_size hf0 with e1 | ⟨a', len', cap', el, sp, e1, e2, e3⟩
    · have e := hcs0.symm.trans e1
      injection e with e
      injection e with _ e _
      omega
    · have hz := sized_slice hsz (j := 0) (t := 22) (e := 5) (elems := el) (spare := sp) rfl (by rw [show d0 = .slice el sp from e2]; rfl) Try.underlying22
      rw [show Try.prog.bytesOf 5 = 1 by kernel_rfl] at hz
      have e := hcs0.symm.trans e1
      injection e with e
      injection e with _ e _
      unfold reachBytes at hz
      omega
  have hv0 : (Value.slice a0 len0 cap0) = .slice Ab nb cb := by simpa [Value.cells] using hcs0
  rw [hv0] at hW' ⊢
  refine (walk Ab nb cb hreach W hrb).mono fun e W' ⟨he, hb⟩ => ⟨_, he, law_post D.laidOut hW' hb rfl (by kernel_rfl) Try.underlying4 (by kernel_rfl) rfl⟩

theorem over : Rows.fnSafesRow.holds Try.pinned (OpenSpec.ofChange Rows.fnSafesSpec) :=
  OpenClaim.holds_of_wide 4 Try.f4 rfl rfl rfl rfl rfl rfl rfl ⟨rfl, rfl, rfl, rfl, rfl⟩ rfl rfl rfl rfl rfl (by kernel_rfl) Try.func4 closed
    (of_decide_eq_true (by kernel_rfl)) (by unfold Func.isWrapper; first | (rw [if_pos (by decide +kernel)]; kernel_rfl) | (rw [if_neg (by decide +kernel)]; exact ⟨rfl, rfl⟩))
    (fun os started H enc _ => lifted os started H enc)

theorem proved : Rows.FnSafesSaid :=
  over
end Go.Proofs.Ytcfjmhebhhekbaa.fnSafes
