/-
  Proved here: for whatever bytes of a draw, the law FnCmds of commands and the values that stand for them answers true. No condition.
-/
import Derived.Test.YtfebeafonifpdaaRows
import Derived.Test.YtfebeafonifpdaaDoor
import Derived.Test.YtfebeafonifpdaaDraw7
import Derived.Test.YtfebeafonifpdaaLift
import Derived.Deep.RegionHeld3
set_option linter.unusedVariables false
set_option maxRecDepth 100000
namespace Go.Proofs.Ytfebeafonifpdaa.fnCmds
open Go.RowKit Go.ChangeShapes Go.WideShapes Go.Proofs.Ytfebeafonifpdaa.B Go.Proofs.Ytfebeafonifpdaa.V

theorem cmdV_yes {k y n : Int} (h : cmdB k y n = true) : cmdV k y n = 1 + k * 20 + y * 5 + n := by simp [cmdV, h]
theorem cmdV_no {k y n : Int} (h : cmdB k y n = false) : cmdV k y n = 0 := by simp [cmdV, h]
theorem cmd_back {k y n : Int} (h : cmdB k y n = true) : 1 ≤ cmdV k y n ∧ cmdV k y n ≤ 60 ∧ valB (cmdV k y n) = true ∧ okV (cmdV k y n) = true ∧ kV (cmdV k y n) = k ∧ yV (cmdV k y n) = y ∧ nV (cmdV k y n) = n := by
  have e := cmdV_yes h
  obtain ⟨h1, h2, h3, h4, h5, h6, h7⟩ := cmdB_yes h
  generalize cmdV k y n = v at *
  have a1 : (v - 1) / 20 = k := by omega
  have a2 : (v - 1) % 20 / 5 = y := by omega
  have a3 : (v - 1) % 5 = n := by omega
  have hv : valB v = true := by unfold valB; exact decide_eq_true (by omega)
  have ho : okV v = true := by unfold okV; rw [a1, a2, a3, h, hv]; rfl
  refine ⟨by omega, by omega, hv, ho, ?_, ?_, ?_⟩
  · unfold kV; rw [ho, a1]; rfl
  · unfold yV; rw [ho, a2]; rfl
  · unfold nV; rw [ho, a3]; rfl
theorem val_back {v : Int} (h : okV v = true) : cmdV (kV v) (yV v) (nV v) = v := by
  have h1 : kV v = (v - 1) / 20 := by simp [kV, h]
  have h2 : yV v = (v - 1) % 20 / 5 := by simp [yV, h]
  have h3 : nV v = (v - 1) % 5 := by simp [nV, h]
  unfold okV at h
  rw [Bool.and_eq_true] at h
  have hv : 1 ≤ v ∧ v ≤ 60 := by have := h.1; unfold valB at this; exact of_decide_eq_true this
  rw [h1, h2, h3, cmdV_yes h.2]
  omega
theorem implCmdVal_at (k y n v : Int) (h : cmdV k y n = v) (w : World) : Calls Try.prog 18 #[.agg #[.int .i64 k, .int .i64 y, .int .i64 n]] w fun e w' => e = .returned (.int .i64 v) ∧ Below w.heap.size w w' := by rw [← h]; exact implCmdVal_any k y n w
theorem implVal_at2 (v : Int) (q : Bool) (k y n : Int) (hq : okV v = q) (hk : kV v = k) (hy : yV v = y) (hn : nV v = n) (w : World) : Calls Try.prog 20 #[.int .i64 v] w fun e w' => e = .returned (.tuple #[.agg #[.int .i64 k, .int .i64 y, .int .i64 n], .bool q]) ∧ Below w.heap.size w w' := by
  rw [← hq, ← hk, ← hy, ← hn]; exact implValCmd_any v w
set_option maxHeartbeats 3200000 in
theorem walk (A : Option Addr) (n c : Nat) (hm : n ≤ maxLen) (w : World) (hr : RdC w w.heap.size A n) :
    Calls Try.prog 3 #[.slice A n c] w fun e w' => e = .returned (.bool true) ∧ Below w.heap.size w w' := by
  go_enter Try.func3, Try.ntmps3
  go_wp2_with fail
  refine (drawCmdVal_any A n c hm w hr).mono ?_
  rintro e w1 ⟨k, y, z, rfl, hb1⟩
  have hr1 : RdC (w1.alloc (.cells #[.int .i64 k, .int .i64 y, .int .i64 z] 24)) (w1.alloc (.cells #[.int .i64 k, .int .i64 y, .int .i64 z] 24)).heap.size A n := ((hr.below hb1).below ((Below.refl _ _).alloc hb1.size _)).more (by have := hb1.size; simp; omega)
  have kc2 := Blk.new w1 24 #[.int .i64 k, .int .i64 y, .int .i64 z]
  have hB2 := up_ hb1 (.cells #[.int .i64 k, .int .i64 y, .int .i64 z] 24)
  have HR := Lib.hid hr1
  clear hb1 hr hr1
  go_wp2_with fail
  generalize w1.alloc (.cells #[.int .i64 k, .int .i64 y, .int .i64 z] 24) = w2 at *
  obtain ⟨q, hq⟩ : ∃ q, cmdB k y z = q := ⟨_, rfl⟩
  cases q
  · have HV := Lib.hid (cmdV_no hq)
    have HQ := Lib.hid hq; clear hq
    refine (implCmdVal_at k y z 0 HV.out _).mono ?_
    rintro e w3 ⟨rfl, hb3⟩
    have kc3 := kc2.on hb3
    have hB3 := on_ hB2 hb3
    have HR3 := Lib.hid ((HR.out.below hb3).more hb3.size)
    clear hb3 kc2 hB2 HR
    go_wp2_with fail
    refine (drawValCmd_any A n c hm w3 HR3.out).mono ?_
    rintro e w4 ⟨u, hu0, hu1, rfl, hb4⟩
    have kc4 := kc3.on hb4
    have hB4 := on_ hB3 hb4
    clear hb4 kc3 hB3 HR3
    obtain ⟨r, hr⟩ : ∃ r, okV u = r := ⟨_, rfl⟩
    cases r
    · obtain ⟨dk, hdk⟩ : ∃ a, kV u = a := ⟨_, rfl⟩
      obtain ⟨dy, hdy⟩ : ∃ a, yV u = a := ⟨_, rfl⟩
      obtain ⟨dn, hdn⟩ : ∃ a, nV u = a := ⟨_, rfl⟩
      have HK := Lib.hid hdk; have HY := Lib.hid hdy; have HN := Lib.hid hdn; have HO := Lib.hid hr
      clear hdk hdy hdn hr
      go_wp2_with fail
      refine (implVal_at2 u false dk dy dn HO.out HK.out HY.out HN.out w4).mono ?_
      rintro e w5 ⟨rfl, hb5⟩
      have kc6 := (kc4.on hb5).alloc (.cells #[.int .i64 dk, .int .i64 dy, .int .i64 dn] 24)
      have kd6 := Blk.new w5 24 #[.int .i64 dk, .int .i64 dy, .int .i64 dn]
      have hB6 := up_ (on_ hB4 hb5) (.cells #[.int .i64 dk, .int .i64 dy, .int .i64 dn] 24)
      clear hb5 kc4 hB4
      have rc6 := kc6.rule
      go_wp2
      generalize w5.alloc (.cells #[.int .i64 dk, .int .i64 dy, .int .i64 dn] 24) = w6 at *
      have C0 := lat_blk kc6
      clear rc6
      refine wp_region_lat (by kernel_rfl) (by kernel_rfl) ?_
      repeat (go_big_quiet_step ((first | (go_at_call 21; exact lat_call _ (specCmdOk_is false k y z HQ.out _)) | (go_at_call 22; exact lat_call _ (implCmdOk_is false k y z HQ.out _)))))
      refine wpQuiet_nil ?_
      rintro w7 ⟨⟨_, hb7⟩, rfl⟩
      have kc7 := kc6.on hb7
      have kd7 := kd6.on hb7
      have hB7 := on_ hB6 hb7
      clear C0 hb7 kc6 kd6 hB6
      have rc7 := kc7.rule
      have rd7 := kd7.rule
      go_wp2_with fail
      refine (stores_any _).mono ?_
      rintro e wb ⟨rfl, hbb⟩
      go_wp2
      go_ret
      exact ⟨rfl, on_ hB7 hbb⟩
    · have HVB2 := Lib.hid (val_back hr)
      obtain ⟨dk, hdk⟩ : ∃ a, kV u = a := ⟨_, rfl⟩
      obtain ⟨dy, hdy⟩ : ∃ a, yV u = a := ⟨_, rfl⟩
      obtain ⟨dn, hdn⟩ : ∃ a, nV u = a := ⟨_, rfl⟩
      rw [hdk, hdy, hdn] at HVB2
      have HK := Lib.hid hdk; have HY := Lib.hid hdy; have HN := Lib.hid hdn; have HO := Lib.hid hr
      clear hdk hdy hdn hr
      go_wp2_with fail
      refine (implVal_at2 u true dk dy dn HO.out HK.out HY.out HN.out w4).mono ?_
      rintro e w5 ⟨rfl, hb5⟩
      have kc6 := (kc4.on hb5).alloc (.cells #[.int .i64 dk, .int .i64 dy, .int .i64 dn] 24)
      have kd6 := Blk.new w5 24 #[.int .i64 dk, .int .i64 dy, .int .i64 dn]
      have hB6 := up_ (on_ hB4 hb5) (.cells #[.int .i64 dk, .int .i64 dy, .int .i64 dn] 24)
      clear hb5 kc4 hB4
      have rc6 := kc6.rule
      go_wp2
      generalize w5.alloc (.cells #[.int .i64 dk, .int .i64 dy, .int .i64 dn] 24) = w6 at *
      have C0 := lat_blk kc6
      clear rc6
      refine wp_region_lat (by kernel_rfl) (by kernel_rfl) ?_
      repeat (go_big_quiet_step ((first | (go_at_call 21; exact lat_call _ (specCmdOk_is false k y z HQ.out _)) | (go_at_call 22; exact lat_call _ (implCmdOk_is false k y z HQ.out _)))))
      refine wpQuiet_nil ?_
      rintro w7 ⟨⟨_, hb7⟩, rfl⟩
      have kc7 := kc6.on hb7
      have kd7 := kd6.on hb7
      have hB7 := on_ hB6 hb7
      clear C0 hb7 kc6 kd6 hB6
      have rc7 := kc7.rule
      have rd7 := kd7.rule
      go_wp2_with fail
      refine (implCmdVal_at dk dy dn u HVB2.out _).mono ?_
      rintro e wa ⟨rfl, hba⟩
      have hBa := on_ hB7 hba
      clear hba hB7
      go_wp2_with fail
      refine (stores_any _).mono ?_
      rintro e wb ⟨rfl, hbb⟩
      go_wp2
      go_ret
      exact ⟨rfl, on_ hBa hbb⟩
  · obtain ⟨v1, v60, hvb, hvo, hvk, hvy, hvn⟩ := cmd_back hq
    obtain ⟨v, hv⟩ : ∃ v, cmdV k y z = v := ⟨_, rfl⟩
    rw [hv] at v1 v60 hvb hvo hvk hvy hvn
    have hdv : decide (0 < v) = true := decide_eq_true (by omega)
    have HVB := Lib.hid hvb; have HVO := Lib.hid hvo; have HVK := Lib.hid hvk; have HVY := Lib.hid hvy; have HVN := Lib.hid hvn
    have HV := Lib.hid hv
    clear hvb hvo hvk hvy hvn hv
    have HQ := Lib.hid hq; clear hq
    refine (implCmdVal_at k y z v HV.out _).mono ?_
    rintro e w3 ⟨rfl, hb3⟩
    have kc3 := kc2.on hb3
    have hB3 := on_ hB2 hb3
    have HR3 := Lib.hid ((HR.out.below hb3).more hb3.size)
    clear hb3 kc2 hB2 HR
    go_wp2_with fail
    refine (drawValCmd_any A n c hm w3 HR3.out).mono ?_
    rintro e w4 ⟨u, hu0, hu1, rfl, hb4⟩
    have kc4 := kc3.on hb4
    have hB4 := on_ hB3 hb4
    clear hb4 kc3 hB3 HR3
    obtain ⟨r, hr⟩ : ∃ r, okV u = r := ⟨_, rfl⟩
    cases r
    · obtain ⟨dk, hdk⟩ : ∃ a, kV u = a := ⟨_, rfl⟩
      obtain ⟨dy, hdy⟩ : ∃ a, yV u = a := ⟨_, rfl⟩
      obtain ⟨dn, hdn⟩ : ∃ a, nV u = a := ⟨_, rfl⟩
      have HK := Lib.hid hdk; have HY := Lib.hid hdy; have HN := Lib.hid hdn; have HO := Lib.hid hr
      clear hdk hdy hdn hr
      go_wp2_with fail
      refine (implVal_at2 u false dk dy dn HO.out HK.out HY.out HN.out w4).mono ?_
      rintro e w5 ⟨rfl, hb5⟩
      have kc6 := (kc4.on hb5).alloc (.cells #[.int .i64 dk, .int .i64 dy, .int .i64 dn] 24)
      have kd6 := Blk.new w5 24 #[.int .i64 dk, .int .i64 dy, .int .i64 dn]
      have hB6 := up_ (on_ hB4 hb5) (.cells #[.int .i64 dk, .int .i64 dy, .int .i64 dn] 24)
      clear hb5 kc4 hB4
      have rc6 := kc6.rule
      go_wp2
      generalize w5.alloc (.cells #[.int .i64 dk, .int .i64 dy, .int .i64 dn] 24) = w6 at *
      have C0 := lat_blk kc6
      clear rc6
      refine wp_region_lat (by kernel_rfl) (by kernel_rfl) ?_
      repeat (go_big_quiet_step ((first | (go_at_call 21; exact lat_call _ (specCmdOk_is true k y z HQ.out _)) | (go_at_call 22; exact lat_call _ (implCmdOk_is true k y z HQ.out _)))))
      refine wpQuiet_nil ?_
      rintro w7 ⟨⟨_, hb7⟩, rfl⟩
      have kc7 := kc6.on hb7
      have kd7 := kd6.on hb7
      have hB7 := on_ hB6 hb7
      clear C0 hb7 kc6 kd6 hB6
      have rc7 := kc7.rule
      have rd7 := kd7.rule
      go_wp2_with fail
      refine (implVal_at2 v true k y z HVO.out HVK.out HVY.out HVN.out w7).mono ?_
      rintro e w8 ⟨rfl, hb8⟩
      have kc8 := (kc7.on hb8).alloc (.cells #[.int .i64 k, .int .i64 y, .int .i64 z] 24)
      have kd8 := (kd7.on hb8).alloc (.cells #[.int .i64 k, .int .i64 y, .int .i64 z] 24)
      have hB8 := up_ (on_ hB7 hb8) (.cells #[.int .i64 k, .int .i64 y, .int .i64 z] 24)
      clear hb8 kc7 kd7 hB7 rc7 rd7
      have rc8 := kc8.rule
      have rd8 := kd8.rule
      have hkk : (k == k) = true := by simp
      have hyy : (y == y) = true := by simp
      have hzz : (z == z) = true := by simp
      go_wp2_with (go_at_call 23; refine (specVal3_is v true HVB.out _).mono ?_; rintro e w9 ⟨rfl, h9⟩; obtain rfl := h9.symm)
      go_wp2_with fail
      refine (stores_any _).mono ?_
      rintro e wb ⟨rfl, hbb⟩
      go_wp2
      go_ret
      exact ⟨rfl, on_ hB8 hbb⟩
    · have HVB2 := Lib.hid (val_back hr)
      obtain ⟨dk, hdk⟩ : ∃ a, kV u = a := ⟨_, rfl⟩
      obtain ⟨dy, hdy⟩ : ∃ a, yV u = a := ⟨_, rfl⟩
      obtain ⟨dn, hdn⟩ : ∃ a, nV u = a := ⟨_, rfl⟩
      rw [hdk, hdy, hdn] at HVB2
      have HK := Lib.hid hdk; have HY := Lib.hid hdy; have HN := Lib.hid hdn; have HO := Lib.hid hr
      clear hdk hdy hdn hr
      go_wp2_with fail
      refine (implVal_at2 u true dk dy dn HO.out HK.out HY.out HN.out w4).mono ?_
      rintro e w5 ⟨rfl, hb5⟩
      have kc6 := (kc4.on hb5).alloc (.cells #[.int .i64 dk, .int .i64 dy, .int .i64 dn] 24)
      have kd6 := Blk.new w5 24 #[.int .i64 dk, .int .i64 dy, .int .i64 dn]
      have hB6 := up_ (on_ hB4 hb5) (.cells #[.int .i64 dk, .int .i64 dy, .int .i64 dn] 24)
      clear hb5 kc4 hB4
      have rc6 := kc6.rule
      go_wp2
      generalize w5.alloc (.cells #[.int .i64 dk, .int .i64 dy, .int .i64 dn] 24) = w6 at *
      have C0 := lat_blk kc6
      clear rc6
      refine wp_region_lat (by kernel_rfl) (by kernel_rfl) ?_
      repeat (go_big_quiet_step ((first | (go_at_call 21; exact lat_call _ (specCmdOk_is true k y z HQ.out _)) | (go_at_call 22; exact lat_call _ (implCmdOk_is true k y z HQ.out _)))))
      refine wpQuiet_nil ?_
      rintro w7 ⟨⟨_, hb7⟩, rfl⟩
      have kc7 := kc6.on hb7
      have kd7 := kd6.on hb7
      have hB7 := on_ hB6 hb7
      clear C0 hb7 kc6 kd6 hB6
      have rc7 := kc7.rule
      have rd7 := kd7.rule
      go_wp2_with fail
      refine (implVal_at2 v true k y z HVO.out HVK.out HVY.out HVN.out w7).mono ?_
      rintro e w8 ⟨rfl, hb8⟩
      have kc8 := (kc7.on hb8).alloc (.cells #[.int .i64 k, .int .i64 y, .int .i64 z] 24)
      have kd8 := (kd7.on hb8).alloc (.cells #[.int .i64 k, .int .i64 y, .int .i64 z] 24)
      have hB8 := up_ (on_ hB7 hb8) (.cells #[.int .i64 k, .int .i64 y, .int .i64 z] 24)
      clear hb8 kc7 kd7 hB7 rc7 rd7
      have rc8 := kc8.rule
      have rd8 := kd8.rule
      have hkk : (k == k) = true := by simp
      have hyy : (y == y) = true := by simp
      have hzz : (z == z) = true := by simp
      go_wp2_with (go_at_call 23; refine (specVal3_is v true HVB.out _).mono ?_; rintro e w9 ⟨rfl, h9⟩; obtain rfl := h9.symm)
      go_wp2_with fail
      refine (implCmdVal_at dk dy dn u HVB2.out _).mono ?_
      rintro e wa ⟨rfl, hba⟩
      have hBa := on_ hB8 hba
      clear hba hB8
      go_wp2_with fail
      refine (stores_any _).mono ?_
      rintro e wb ⟨rfl, hbb⟩
      go_wp2
      go_ret
      exact ⟨rfl, on_ hBa hbb⟩

theorem closed : joinedFacts Try.prog 3 Try.f3 Rows.fnCmdsSpec Rows.fnCmdsRow = true := by
  unfold joinedFacts
  rw [D.make_is, D.enter_is, D.final_is]
  kernel_rfl

set_option maxRecDepth 100000 in
theorem lifted (os : Os) (started : os.Started) (H : Type) (enc : TypeId × Value → H) :
    ReturnsInHanded {} Try.checked os 3 .any (Rows.fnCmdsSpec.pre6 enc Try.prog Try.f3 Rows.fnCmdsRow.domain false) (Rows.fnCmdsSpec.post enc Try.prog Try.f3 false true false false) := by
  refine returnsInHanded_of_change (C := Try.checked) D.own started (by kernel_rfl) Try.func3
    (ChangeSpec.witness6 (enc := enc) (C := Try.checked) false ⟨#[], #[.slice none 0 0], []⟩ 8 (by kernel_rfl) (by kernel_rfl) (by kernel_rfl) (by kernel_rfl)) ?_
  intro W base args ds gs before hval0 hW hcnd _
  have hval : ∀ (j : Nat) t v, Try.f3.params[j]? = some t → args[j]? = some v → Value.okWide Try.prog W .any base t v := hval0
  have hW' := hW
  obtain ⟨p, q, hA0, hV, rfl, hfz, hnd⟩ := hW
  have hA : DataW.TrodAll enc Try.prog W 0 (fun _ => true) true Try.f3.params.toList args.toList ds p := hA0
  rw [Try.params3] at hA hval
  obtain ⟨v0, d0, rfl, rfl, h0⟩ := trodAll_one hA
  obtain ⟨a0, len0, cap0, rfl⟩ := okWide_slice Try.underlying22 (hval 0 22 v0 rfl rfl)
  obtain ⟨fuel0, hf0⟩ := h0
  obtain ⟨Ab, nb, cb, hcs0, hmb, hrb⟩ := open_code hf0
  have hv0 : (Value.slice a0 len0 cap0) = .slice Ab nb cb := by simpa [Value.cells] using hcs0
  rw [hv0] at hW' ⊢
  refine (walk Ab nb cb hmb W hrb).mono fun e W' ⟨he, hb⟩ => ⟨_, he, law_post D.laidOut hW' hb rfl (by kernel_rfl) Try.underlying4 (by kernel_rfl) rfl⟩

theorem over : Rows.fnCmdsRow.holds Try.pinned (OpenSpec.ofChange Rows.fnCmdsSpec) :=
  OpenClaim.holds_of_wide 3 Try.f3 rfl rfl rfl rfl rfl rfl rfl ⟨rfl, rfl, rfl, rfl, rfl⟩ rfl rfl rfl rfl rfl (by kernel_rfl) Try.func3 closed
    (of_decide_eq_true (by kernel_rfl)) (by unfold Func.isWrapper; first | (rw [if_pos (by decide +kernel)]; kernel_rfl) | (rw [if_neg (by decide +kernel)]; exact ⟨rfl, rfl⟩))
    (fun os started H enc _ => lifted os started H enc)

theorem proved : Rows.FnCmdsSaid :=
  over
end Go.Proofs.Ytfebeafonifpdaa.fnCmds
