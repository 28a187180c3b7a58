/-
  Proved here: for whatever bytes of a draw, the law FnSupports (a safe value is supported by a strong quorum; unlocked reports support every value; the reports are free exactly if a strong quorum is unlocked) answers true. No condition.
-/
import Derived.Test.YtikhakmddcmbpaaRows
import Derived.Test.YtikhakmddcmbpaaDoor
import Derived.Test.YtikhakmddcmbpaaDraws3
import Derived.Test.YtikhakmddcmbpaaSafeMath
import Derived.Test.YtikhakmddcmbpaaLift
set_option linter.unusedVariables false
set_option maxRecDepth 100000
namespace Go.Proofs.Ytikhakmddcmbpaa.fnSupports
open Go.RowKit Go.ChangeShapes Go.WideShapes Go.Proofs.Ytikhakmddcmbpaa.B Go.Proofs.Ytikhakmddcmbpaa.V

set_option maxHeartbeats 3200000 in
theorem walk (A : Option Addr) (nb c : Nat) (hm : nb ≤ maxLen) (w : World) (hr : RdC w w.heap.size A nb) :
    Calls Try.prog 8 #[.slice A nb c] w fun e w' => e = .returned (.bool true) ∧ Below w.heap.size w w' := by
  have HD := Lib.hid (drawSupports_any A nb c hm w hr)
  clear hr
  go_enter Try.func8, Try.ntmps8
  go_wp2_with fail
  refine HD.out.mono ?_
  rintro e w1 ⟨n, view, B, d, ps, x, hx, rfl, hok, hr1, hB1⟩
  have hf := hok.few
  have hr1 := Lib.hid hr1
  have hB1 := Lib.hid hB1
  obtain ⟨q, hq⟩ : ∃ q, repsOkB n view (rl ps) = q := ⟨_, rfl⟩
  have HQ := Lib.hid (fun W h => specReportsOk_is q n view B d ps hq W h hf)
  have hlen : (rl ps).length = ps.length := rl_len ps
  obtain ⟨val, hval⟩ : ∃ v : Int, (x : Int) = v := ⟨_, rfl⟩
  rw [hval] at *
  clear hval hx
  obtain ⟨k, hk⟩ : ∃ z, supT n view (rl ps) val = z := ⟨_, rfl⟩
  obtain ⟨u, hu⟩ : ∃ z, unbT n view (rl ps) = z := ⟨_, rfl⟩
  obtain ⟨vo, hvo⟩ : ∃ z, valOkB val = z := ⟨_, rfl⟩
  have HVO := Lib.hid (fun W => specVal_is val vo hvo W)
  have HK : Hid (∀ W, RdR W W.heap.size B ps → Calls Try.prog 40 #[.int .i64 n, .int .i64 view, .slice B ps.length d, .int .i64 (val)] W fun e w' => e = .returned (.int .i64 k) ∧ Below W.heap.size W w') := fun W h => by
    have := implSupports_any n view val B d ps _ rfl W h hf
    rwa [hk] at this
  have HU : Hid (∀ W, RdR W W.heap.size B ps → Calls Try.prog 41 #[.int .i64 n, .int .i64 view, .slice B ps.length d] W fun e w' => e = .returned (.int .i64 u) ∧ Below W.heap.size W w') := fun W h => by
    have := implUnbound_any n view B d ps _ rfl W h hf
    rwa [hu] at this
  go_wp2_with fail
  refine (HK.out _ hr1.out).mono ?_
  rintro e w2 ⟨rfl, hb⟩
  have hr2 := Lib.hid (hr1.out.on hb)
  have hB2 := Lib.hid (on_ hB1.out hb)
  clear hb hr1 hB1
  go_wp2_with fail
  refine (HU.out _ hr2.out).mono ?_
  rintro e w3 ⟨rfl, hb⟩
  have hr3 := Lib.hid (hr2.out.on hb)
  have hB3 := Lib.hid (on_ hB2.out hb)
  clear hb hr2 hB2
  go_wp2_with fail
  refine (HQ.out _ hr3.out).mono ?_
  rintro e w4 ⟨rfl, hb⟩
  have hr4 := Lib.hid (hr3.out.on hb)
  have hB4 := Lib.hid (on_ hB3.out hb)
  clear hb hr3 hB3
  rcases q with _ | _
  · have hk0 : k = -1 := by rw [← hk, supT, hq]; rfl
    have hu0 : u = -1 := by rw [← hu, unbT, hq]; rfl
    subst hk0 hu0
    go_wp2_with fail
    refine (reports_is _).mono ?_
    rintro e w5 ⟨rfl, hb⟩
    have hB5 := on_ hB4.out hb
    go_wp2
    go_ret
    exact ⟨rfl, hB5⟩
  · skip
    go_wp2_with fail
    refine (HVO.out _).mono ?_
    rintro e wz ⟨rfl, hwz⟩
    subst hwz
    rcases vo with _ | _
    · have hk0 : k = -1 := by rw [← hk, supT, hq, hvo]; rfl
      subst hk0
      go_wp2_with fail
      refine (reports_is _).mono ?_
      rintro e w5 ⟨rfl, hb⟩
      have hB5 := on_ hB4.out hb
      go_wp2
      go_ret
      exact ⟨rfl, hB5⟩
    · have hsf := sup_facts (n := n) (view := view) (rs := rl ps) val
      have ek : k = (supR (groundsR n view (rl ps) val) val (rl ps) : Int) := by rw [← hk, supT, hq, hvo]; rfl
      have eu : u = (unbR (rl ps) : Int) := by rw [← hu, unbT, hq]; rfl
      obtain ⟨sf, hsq⟩ : ∃ z, safeT n view (rl ps) val = z := ⟨_, rfl⟩
      obtain ⟨fq, hfq⟩ : ∃ z, freeT n view (rl ps) = z := ⟨_, rfl⟩
      obtain ⟨st, hst⟩ : ∃ z, strongR n = z := ⟨_, rfl⟩
      have es : safeR n view (rl ps) val = sf := by rw [← hsq, safeT, hq, hvo]; rfl
      have ef : decide (st ≤ u) = fq := by rw [← hfq, freeT, hq, freeR, hst, eu]; rfl
      rw [es, ← ek, hst] at hsf
      have HS : Hid (∀ W, RdR W W.heap.size B ps → Calls Try.prog 31 #[.int .i64 n, .int .i64 view, .slice B ps.length d, .int .i64 (val)] W fun e w' => e = .returned (.bool sf) ∧ Below W.heap.size W w') := fun W h => by
        have := implSafe_any n view val B d ps _ rfl W h hf
        rwa [hsq] at this
      have HF : Hid (∀ W, RdR W W.heap.size B ps → Calls Try.prog 33 #[.int .i64 n, .int .i64 view, .slice B ps.length d] W fun e w' => e = .returned (.bool fq) ∧ Below W.heap.size W w') := fun W h => by
        have := implFree_any n view B d ps _ rfl W h hf
        rwa [hfq] at this
      have HST : Hid (∀ W, Calls Try.prog 34 #[.int .i64 n] W fun e w' => e = .returned (.int .i64 st) ∧ w' = W) := fun W => by
        have := specStrong_any n W
        rwa [hst] at this
      have d1 : decide (u ≤ k) = true := decide_eq_true (by omega)
      have d2 : decide (k ≤ (ps.length : Int)) = true := decide_eq_true (by omega)
      have f5 := Lib.hid hsf.2.2
      have bb : ∀ b : Bool, (b == b) = true := fun b => by simp
      clear hsf ek eu hk hu hvo hsq hfq hst es hq hlen hok hf
      go_wp2_with fail
      refine (HS.out _ hr4.out).mono ?_
      rintro e w5 ⟨rfl, hb⟩
      have hr5 := Lib.hid (hr4.out.on hb)
      have hB5 := Lib.hid (on_ hB4.out hb)
      clear hb hr4 hB4
      go_wp2_with fail
      refine (HST.out _).mono ?_
      rintro e wz ⟨rfl, hwz⟩
      subst hwz
      go_wp2_with fail
      refine (HF.out _ hr5.out).mono ?_
      rintro e w6 ⟨rfl, hb⟩
      have hr6 := Lib.hid (hr5.out.on hb)
      have hB6 := Lib.hid (on_ hB5.out hb)
      clear hb hr5 hB5
      rcases sf with _ | _
      · skip
        go_wp2_with fail
        refine (reports_is _).mono ?_
        rintro e w7 ⟨rfl, hb⟩
        have hB7 := on_ hB6.out hb
        go_wp2
        go_ret
        exact ⟨rfl, hB7⟩
      · have d3 : decide (st ≤ k) = true := decide_eq_true (f5.out rfl)
        go_wp2_with fail
        refine (HST.out _).mono ?_
        rintro e wz ⟨rfl, hwz⟩
        subst hwz
        go_wp2_with fail
        refine (reports_is _).mono ?_
        rintro e w7 ⟨rfl, hb⟩
        have hB7 := on_ hB6.out hb
        go_wp2
        go_ret
        exact ⟨rfl, hB7⟩

theorem closed : joinedFacts Try.prog 8 Try.f8 Rows.fnSupportsSpec Rows.fnSupportsRow = true := by
  unfold joinedFacts
  rw [D.make_is, D.enter_is, D.final_is]
  kernel_rfl

set_option maxRecDepth 100000 in
theorem lifted (os : Os) (started : os.Started) (H : Type) (enc : TypeId × Value → H) :
    ReturnsInHanded {} Try.checked os 8 .any (Rows.fnSupportsSpec.pre6 enc Try.prog Try.f8 Rows.fnSupportsRow.domain false) (Rows.fnSupportsSpec.post enc Try.prog Try.f8 false true false false) := by
  refine returnsInHanded_of_change (C := Try.checked) D.own started (by kernel_rfl) Try.func8
    (ChangeSpec.witness6 (enc := enc) (C := Try.checked) false ⟨#[], #[.slice none 0 0], []⟩ 8 (by kernel_rfl) (by kernel_rfl) (by kernel_rfl) (by kernel_rfl)) ?_
  intro W base args ds gs before hval0 hW hcnd _
  have hval : ∀ (j : Nat) t v, Try.f8.params[j]? = some t → args[j]? = some v → Value.okWide Try.prog W .any base t v := hval0
  have hW' := hW
  obtain ⟨p, q, hA0, hV, rfl, hfz, hnd⟩ := hW
  have hA : DataW.TrodAll enc Try.prog W 0 (fun _ => true) true Try.f8.params.toList args.toList ds p := hA0
  rw [Try.params8] at hA hval
  obtain ⟨v0, d0, rfl, rfl, h0⟩ := trodAll_one hA
  obtain ⟨a0, len0, cap0, rfl⟩ := okWide_slice Try.underlying22 (hval 0 22 v0 rfl rfl)
  obtain ⟨fuel0, hf0⟩ := h0
  obtain ⟨Ab, nb, cb, hcs0, hmb, hrb⟩ := open_code hf0
  have hv0 : (Value.slice a0 len0 cap0) = .slice Ab nb cb := by simpa [Value.cells] using hcs0
  rw [hv0] at hW' ⊢
  refine (walk Ab nb cb hmb W hrb).mono fun e W' ⟨he, hb⟩ => ⟨_, he, law_post D.laidOut hW' hb rfl (by kernel_rfl) Try.underlying4 (by kernel_rfl) rfl⟩

theorem over : Rows.fnSupportsRow.holds Try.pinned (OpenSpec.ofChange Rows.fnSupportsSpec) :=
  OpenClaim.holds_of_wide 8 Try.f8 rfl rfl rfl rfl rfl rfl rfl ⟨rfl, rfl, rfl, rfl, rfl⟩ rfl rfl rfl rfl rfl (by kernel_rfl) Try.func8 closed
    (of_decide_eq_true (by kernel_rfl)) (by unfold Func.isWrapper; first | (rw [if_pos (by decide +kernel)]; kernel_rfl) | (rw [if_neg (by decide +kernel)]; exact ⟨rfl, rfl⟩))
    (fun os started H enc _ => lifted os started H enc)

theorem proved : Rows.FnSupportsSaid :=
  over
end Go.Proofs.Ytikhakmddcmbpaa.fnSupports
