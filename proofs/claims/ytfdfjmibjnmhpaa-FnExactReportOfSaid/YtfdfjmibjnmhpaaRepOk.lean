/-
  Which lists of reports are valid, for the model and for the program: contracts. No statement is proved here.
-/
import Derived.Test.YtfdfjmibjnmhpaaRepMath
import Derived.Deep.RegionWith
set_option linter.unusedVariables false
set_option maxRecDepth 100000
namespace Go.Proofs.Ytfdfjmibjnmhpaa.V
open Go.RowKit Go.Proofs.Ytfdfjmibjnmhpaa.B

theorem l3report_is (q : Bool) (n view f a b : Int) (A : Option Addr) (c : Nat) (vs : List (Int × Int)) (hq : repB n view ⟨f, a, b, vs⟩ = q) (w : World) (hr : Rd w w.heap.size A vs) (hn : vs.length ≤ 1048576) :
    Calls Try.prog 104 #[.int .i64 n, .int .i64 view, .agg #[.int .i64 f, .int .i64 a, .int .i64 b, .slice A vs.length c]] w fun e w' => e = .returned (.bool q) ∧ Below w.heap.size w w' := by
  subst hq
  unfold repB inB
  have hr0 := fun O => (hr.alloc (Nat.le_refl _) O).more (Bd' := (w.alloc O).heap.size) (by simp)
  have HR := Lib.hid hr0; clear hr0 hr
  obtain ⟨q, hq⟩ : ∃ q, msgOkB 3 view 0 a b vs = q := ⟨_, rfl⟩
  simp only [hq]
  have HQ := Lib.hid hq; clear hq
  by_cases h1 : 0 ≤ f
  · by_cases h2 : f < n
    · go_enter Try.func104, Try.ntmps104
      go_wp2_with (go_at_call 57; refine (specMsgOk_is q 3 view 0 a b A c vs HQ.out _ (HR.out _) hn).mono ?_; rintro e w1 ⟨rfl, hb1⟩)
      go_ret
      exact ⟨ret_bool (by simp [h1, h2]), Below.trans ((Below.refl _ _).alloc (Nat.le_refl _) _) (hb1.mono (by simp))⟩
    · go_enter Try.func104, Try.ntmps104
      go_wp2
      go_ret
      exact ⟨ret_bool (by simp; intros; omega), (Below.refl _ _).alloc (Nat.le_refl _) _⟩
  · go_enter Try.func104, Try.ntmps104
    go_wp2
    go_ret
    exact ⟨ret_bool (by simp; intros; omega), (Below.refl _ _).alloc (Nat.le_refl _) _⟩

theorem reportOk_is (q : Bool) (n view f a b : Int) (A : Option Addr) (c : Nat) (vs : List (Int × Int)) (hq : repB n view ⟨f, a, b, vs⟩ = q) (w : World) (hr : Rd w w.heap.size A vs) (hn : vs.length ≤ 1048576) :
    Calls Try.prog 129 #[.int .i64 n, .int .i64 view, .agg #[.int .i64 f, .int .i64 a, .int .i64 b, .slice A vs.length c]] w fun e w' => e = .returned (.bool q) ∧ Below w.heap.size w w' := by
  subst hq
  unfold repB inB
  have hr0 := fun O => (hr.alloc (Nat.le_refl _) O).more (Bd' := (w.alloc O).heap.size) (by simp)
  have HR := Lib.hid hr0; clear hr0 hr
  obtain ⟨q, hq⟩ : ∃ q, msgOkB 3 view 0 a b vs = q := ⟨_, rfl⟩
  simp only [hq]
  have HQ := Lib.hid hq; clear hq
  by_cases h1 : 0 ≤ f
  · by_cases h2 : f < n
    · go_enter Try.func129, Try.ntmps129
      go_wp2_with (go_at_call 60; refine (implMsgOk_is q 3 view 0 a b A c vs HQ.out _ (HR.out _) hn).mono ?_; rintro e w1 ⟨rfl, hb1⟩)
      go_ret
      exact ⟨ret_bool (by simp [h1, h2]), Below.trans ((Below.refl _ _).alloc (Nat.le_refl _) _) (hb1.mono (by simp))⟩
    · go_enter Try.func129, Try.ntmps129
      go_wp2
      go_ret
      exact ⟨ret_bool (by simp; intros; omega), (Below.refl _ _).alloc (Nat.le_refl _) _⟩
  · go_enter Try.func129, Try.ntmps129
    go_wp2
    go_ret
    exact ⟨ret_bool (by simp; intros; omega), (Below.refl _ _).alloc (Nat.le_refl _) _⟩


set_option maxHeartbeats 1600000 in
theorem specReportsOk_any (n view : Int) (A : Option Addr) (c : Nat) (ps : List Pp) (w : World) (hr : RdR w w.heap.size A ps) (hf : Few ps) :
    Calls Try.prog 76 #[.int .i64 n, .int .i64 view, .slice A ps.length c] w fun e w' => e = .returned (.bool (repsOkB n view (rl ps))) ∧ Below w.heap.size w w' := by
  obtain ⟨hn, hv⟩ := hf
  obtain ⟨m, hvn⟩ : ∃ m, ps.length = m := ⟨_, rfl⟩
  rw [hvn] at hn hv ⊢
  have HVL := Lib.hid hv; clear hv
  have HV := Lib.hid hvn; clear hvn
  obtain ⟨z, hz⟩ : ∃ z, repsOkB n view (rl ps) = z := ⟨_, rfl⟩
  rw [hz]
  have HZ := Lib.hid hz; clear hz
  obtain ⟨qs, hqs⟩ : ∃ q, sizeB n = q := ⟨_, rfl⟩
  have HS := Lib.hid hqs; clear hqs
  go_enter Try.func76, Try.ntmps76
  go_wp2
  go_loopw [7] (fun i wr => ∃ (k : Nat), k ≤ m ∧ i = .int .i64 k ∧ Hid (∀ j, j < k → goodR n view (rl ps) j = true) ∧ Below w.heap.size w wr) (fun i _ => m - (intOf i).toNat)
  case atStart => exact ⟨0, Nat.zero_le _, rfl, fun j hj => absurd hj (by omega), Below.refl _ _⟩
  case round =>
    obtain ⟨k, hk, rfl, hall, hbel⟩ := hrel
    by_cases hlt : k < m
    · obtain ⟨b, off, rfl, hb, hc0, hc1, hc2, hc3, hrv⟩ := RdR.at_ (hr.below hbel) (k := k) (by rw [HV.out]; omega)
      have hpv : 0 < k → wr.cell? ⟨b, off + (k - 1) * 4, none⟩ = some (.int .i64 (ps.getD (k - 1) zP).r.f) := fun h0 => by
        obtain ⟨b', off', he, _, h1, _⟩ := RdR.at_ (hr.below hbel) (k := k - 1) (by rw [HV.out]; omega)
        injection he with he
        injection he with he1 he2
        subst he1 he2
        exact h1
      clear hr
      have hvl := HVL.out k hlt
      have HG : Hid (goodR n view (rl ps) k = (repB n view (ps.getD k zP).r && (decide (k = 0) || decide ((ps.getD (k - 1) zP).r.f < (ps.getD k zP).r.f)))) := by show _ = _; unfold goodR; rw [rl_at, rl_at]
      obtain ⟨⟨⟨uf, uv, ux, us⟩, A', c'⟩, hu⟩ : ∃ v, ps.getD k zP = v := ⟨_, rfl⟩
      obtain ⟨pf, hp⟩ : ∃ v, (ps.getD (k - 1) zP).r.f = v := ⟨_, rfl⟩
      rw [hu] at hc0 hc1 hc2 hc3 hrv hvl HG
      rw [hp] at hpv HG
      simp only at hc0 hc1 hc2 hc3 hrv hvl HG
      clear hu hp
      have HRV := Lib.hid ((fun x : Lat wr => (hrv.below (x.below.mono hbel.size)).more (Nat.le_trans hbel.size x.below.size) : ∀ x : Lat wr, Rd x.w x.w.heap.size A' us)); clear hrv
      have C0 := fun x : Lat wr => x.cell hc0
      have C1 := fun x : Lat wr => x.cell hc1
      have C2 := fun x : Lat wr => x.cell hc2
      have C3 := fun x : Lat wr => x.cell hc3
      rcases hq : repB n view ⟨uf, uv, ux, us⟩ with _ | _
      · have HQ := Lib.hid hq; clear hq hpv
        go_wp2
        refine wp_region_lat (by kernel_rfl) (by kernel_rfl) ?_
        repeat (go_big_quiet_step ((first | (go_at_call 104; exact lat_call _ (l3report_is false _ _ _ _ _ _ _ _ HQ.out _ (HRV.out _) hvl)))))
        refine wpQuiet_nil ?_
        rintro w3 ⟨⟨_, hb3⟩, rfl⟩
        clear C0 C1 C2 C3
        go_wp2
        go_ret
        refine ⟨ret_bool ?_, hbel.trans (hb3.mono hbel.size)⟩
        rw [← HZ.out]
        unfold repsOkB
        rw [allR_no (k := k) (by rw [rl_len, HV.out]; omega) (by rw [HG.out]; simp [HQ.out])]
        rfl
      have HQ := Lib.hid hq; clear hq
      by_cases h4 : 0 < k
      · have hp0 := hpv h4
        clear hpv
        obtain ⟨p, hkp⟩ : ∃ p, k = p + 1 := ⟨k - 1, by omega⟩
        have hE : (k : Int) - 1 = (p : Int) := by omega
        have hW : IntKind.i64.wrap (p : Int) = (p : Int) := IntWalk.i64_in _ (by omega)
        rw [show k - 1 = p by omega] at hp0
        have P0 := fun x : Lat wr => x.cell hp0
        have hw4 : (p : Int) < (m : Int) := by omega
        have hw5 : p < m := by omega
        have HKP := Lib.hid hkp; clear hkp
        by_cases h5 : pf < uf
        · have hd5 : decide (uf ≤ pf) = false := by simp; omega
          go_wp2
          refine wp_region_lat (by kernel_rfl) (by kernel_rfl) ?_
          repeat (go_big_quiet_step ((first | (go_at_call 104; exact lat_call _ (l3report_is true _ _ _ _ _ _ _ _ HQ.out _ (HRV.out _) hvl)))))
          refine wpQuiet_nil ?_
          rintro w3 ⟨⟨_, hb3⟩, rfl⟩
          clear C0 C1 C2 C3 P0
          go_wp2
          go_roundw
          case rel =>
            refine ⟨k + 1, by omega, by go_num, fun j hj => ?_, hbel.trans (hb3.mono hbel.size)⟩
            by_cases e : j = k
            · rw [e, HG.out]; simp [HQ.out, h5]
            · exact hall.out j (by omega)
          case measure => simp [intOf]; omega
        · have hd5 : decide (uf ≤ pf) = true := by simp; omega
          go_wp2
          refine wp_region_lat (by kernel_rfl) (by kernel_rfl) ?_
          repeat (go_big_quiet_step ((first | (go_at_call 104; exact lat_call _ (l3report_is true _ _ _ _ _ _ _ _ HQ.out _ (HRV.out _) hvl)))))
          refine wpQuiet_nil ?_
          rintro w3 ⟨⟨_, hb3⟩, rfl⟩
          clear C0 C1 C2 C3 P0
          go_wp2
          go_ret
          refine ⟨ret_bool ?_, hbel.trans (hb3.mono hbel.size)⟩
          rw [← HZ.out]
          unfold repsOkB
          rw [allR_no (k := k) (by rw [rl_len, HV.out]; omega) (by rw [HG.out]; simp [h5]; intro _; omega)]
          rfl
      · clear hpv
        have hd : decide ((0 : Int) < (k : Int)) = false := by simp; omega
        have HK0 : Hid (k = 0) := by show _ = _; omega
        go_wp2
        refine wp_region_lat (by kernel_rfl) (by kernel_rfl) ?_
        repeat (go_big_quiet_step ((first | (go_at_call 104; exact lat_call _ (l3report_is true _ _ _ _ _ _ _ _ HQ.out _ (HRV.out _) hvl)))))
        refine wpQuiet_nil ?_
        rintro w3 ⟨⟨_, hb3⟩, rfl⟩
        clear C0 C1 C2 C3
        go_wp2
        go_roundw
        case rel =>
          refine ⟨k + 1, by omega, by go_num, fun j hj => ?_, hbel.trans (hb3.mono hbel.size)⟩
          by_cases e : j = k
          · rw [e, HG.out]; simp [HQ.out, HK0.out]
          · exact hall.out j (by omega)
        case measure => simp [intOf]; omega
    · have HA : Hid (z = (qs && viewR view)) := by
        show _ = _
        rw [← HZ.out]
        unfold repsOkB
        rw [allR_yes fun j hj => hall.out j (by rw [rl_len, HV.out] at hj; omega), HS.out]
        rfl
      cases qs
      · go_wp2_with (go_at_call 70; refine (specSize_is n false HS.out _).mono ?_; rintro e w1 ⟨rfl, rfl⟩)
        go_ret
        exact ⟨ret_bool (by rw [HA.out]; rfl), hbel⟩
      · by_cases h1 : 1 ≤ view
        · by_cases h2 : view ≤ 9
          all_goals
            go_wp2_with (go_at_call 70; refine (specSize_is n true HS.out _).mono ?_; rintro e w1 ⟨rfl, rfl⟩)
            go_ret
            exact ⟨ret_bool (by rw [HA.out]; simp [viewR]; try omega), hbel⟩
        · go_wp2_with (go_at_call 70; refine (specSize_is n true HS.out _).mono ?_; rintro e w1 ⟨rfl, rfl⟩)
          go_ret
          exact ⟨ret_bool (by rw [HA.out]; simp [viewR]; try omega), hbel⟩
set_option maxHeartbeats 1600000 in
theorem implReportsOk_yes (n view : Int) (A : Option Addr) (c : Nat) (ps : List Pp) (w : World) (hr : RdR w w.heap.size A ps) (hf : Few ps) (hsz : sizeB n = true) (hvw : viewR view = true) :
    Calls Try.prog 112 #[.int .i64 n, .int .i64 view, .slice A ps.length c] w fun e w' => e = .returned (.bool (repsOkB n view (rl ps))) ∧ Below w.heap.size w w' := by
  obtain ⟨hn, hv⟩ := hf
  obtain ⟨m, hvn⟩ : ∃ m, ps.length = m := ⟨_, rfl⟩
  rw [hvn] at hn hv ⊢
  have HVL := Lib.hid hv; clear hv
  have HV := Lib.hid hvn; clear hvn
  obtain ⟨z, hz⟩ : ∃ z, repsOkB n view (rl ps) = z := ⟨_, rfl⟩
  rw [hz]
  have HZ : Hid (allR n view (rl ps) = z) := by show _ = _; rw [← hz]; unfold repsOkB; rw [hsz, hvw]; simp
  clear hz
  have HS := Lib.hid hsz; clear hsz
  have hvo : viewOkB view = true := by unfold viewR at hvw; unfold viewOkB; simp at hvw ⊢; omega
  have hv0 : (view == 0) = false := by unfold viewR at hvw; simp at hvw ⊢; omega
  have HVO := Lib.hid hvo; clear hvo hvw
  go_enter Try.func112, Try.ntmps112
  go_wp2_with (first | (go_at_call 80; refine (implSize_is n true HS.out _).mono ?_; rintro e w1 ⟨rfl, h1⟩; obtain rfl := h1.symm) | (go_at_call 82; refine (implView_is view true HVO.out _).mono ?_; rintro e w1 ⟨rfl, h1⟩; obtain rfl := h1.symm))
  go_loopw [23] (fun i wr => ∃ (k : Nat), k ≤ m ∧ i = .int .i64 k ∧ Hid (∀ j, j < k → goodR n view (rl ps) j = true) ∧ Below w.heap.size w wr) (fun i _ => m - (intOf i).toNat)
  case atStart => exact ⟨0, Nat.zero_le _, rfl, fun j hj => absurd hj (by omega), Below.refl _ _⟩
  case round =>
    obtain ⟨k, hk, rfl, hall, hbel⟩ := hrel
    by_cases hlt : k < m
    · obtain ⟨b, off, rfl, hb, hc0, hc1, hc2, hc3, hrv⟩ := RdR.at_ (hr.below hbel) (k := k) (by rw [HV.out]; omega)
      have hpv : 0 < k → wr.cell? ⟨b, off + (k - 1) * 4, none⟩ = some (.int .i64 (ps.getD (k - 1) zP).r.f) := fun h0 => by
        obtain ⟨b', off', he, _, h1, _⟩ := RdR.at_ (hr.below hbel) (k := k - 1) (by rw [HV.out]; omega)
        injection he with he
        injection he with he1 he2
        subst he1 he2
        exact h1
      clear hr
      have hvl := HVL.out k hlt
      have HG : Hid (goodR n view (rl ps) k = (repB n view (ps.getD k zP).r && (decide (k = 0) || decide ((ps.getD (k - 1) zP).r.f < (ps.getD k zP).r.f)))) := by show _ = _; unfold goodR; rw [rl_at, rl_at]
      obtain ⟨⟨⟨uf, uv, ux, us⟩, A', c'⟩, hu⟩ : ∃ v, ps.getD k zP = v := ⟨_, rfl⟩
      obtain ⟨pf, hp⟩ : ∃ v, (ps.getD (k - 1) zP).r.f = v := ⟨_, rfl⟩
      rw [hu] at hc0 hc1 hc2 hc3 hrv hvl HG
      rw [hp] at hpv HG
      simp only at hc0 hc1 hc2 hc3 hrv hvl HG
      clear hu hp
      have hbw : Below wr.heap.size wr (wr.alloc (.cells #[.int .i64 uf, .int .i64 uv, .int .i64 ux, .slice A' us.length c'] 89)) := (Below.refl _ _).alloc (Nat.le_refl _) _
      have hbx := hbel.trans (hbw.mono hbel.size)
      have kx := Blk.new wr 89 #[.int .i64 uf, .int .i64 uv, .int .i64 ux, .slice A' us.length c']
      have hup : ∀ (o : Nat) (v : Value), wr.cell? ⟨b, o, none⟩ = some v → (wr.alloc (.cells #[.int .i64 uf, .int .i64 uv, .int .i64 ux, .slice A' us.length c'] 89)).cell? ⟨b, o, none⟩ = some v := fun o v h => (hbw.cell (p := ⟨b, o, none⟩) (by have := hbel.size; simp; omega)).trans h
      have HUP := Lib.hid hup; clear hup
      have hsx : (wr.alloc (.cells #[.int .i64 uf, .int .i64 uv, .int .i64 ux, .slice A' us.length c'] 89)).heap.size = wr.heap.size + 1 := by simp
      have HRV := Lib.hid ((fun x : Lat (wr.alloc (.cells #[.int .i64 uf, .int .i64 uv, .int .i64 ux, .slice A' us.length c'] 89)) => ((hrv.below (hbw.mono hbel.size)).below (x.below.mono hbx.size)).more (Nat.le_trans hbx.size x.below.size) : ∀ x : Lat _, Rd x.w x.w.heap.size A' us)); clear hrv
      have C0 := fun (x : Lat (wr.alloc (.cells #[.int .i64 uf, .int .i64 uv, .int .i64 ux, .slice A' us.length c'] 89))) (i : Nat) => lat_blk kx x i
      have HBX := Lib.hid hbx; have HSX := Lib.hid hsx; clear hbx hsx hbw kx
      rcases hq : repB n view ⟨uf, uv, ux, us⟩ with _ | _
      · have HQ := Lib.hid hq; clear hq hpv
        go_wp2
        refine wp_region_lat (by kernel_rfl) (by kernel_rfl) ?_
        repeat (go_big_quiet_step ((first | (go_at_call 129; exact lat_call _ (reportOk_is false _ _ _ _ _ _ _ _ HQ.out _ (HRV.out _) hvl)))))
        refine wpQuiet_nil ?_
        rintro w3 ⟨⟨_, hb3⟩, rfl⟩
        clear C0
        go_wp2
        go_ret
        refine ⟨ret_bool ?_, HBX.out.trans (hb3.mono HBX.out.size)⟩
        rw [← HZ.out]
        rw [allR_no (k := k) (by rw [rl_len, HV.out]; omega) (by rw [HG.out]; simp [HQ.out])]
      have HQ := Lib.hid hq; clear hq
      by_cases h4 : 0 < k
      · have hp0 := hpv h4
        clear hpv
        obtain ⟨p, hkp⟩ : ∃ p, k = p + 1 := ⟨k - 1, by omega⟩
        have hE : (k : Int) - 1 = (p : Int) := by omega
        have hW : IntKind.i64.wrap (p : Int) = (p : Int) := IntWalk.i64_in _ (by omega)
        rw [show k - 1 = p by omega] at hp0
        have P0 := fun x : Lat (wr.alloc (.cells #[.int .i64 uf, .int .i64 uv, .int .i64 ux, .slice A' us.length c'] 89)) => x.cell (HUP.out _ _ hp0)
        have hw4 : (p : Int) < (m : Int) := by omega
        have hw5 : p < m := by omega
        have HKP := Lib.hid hkp; clear hkp
        by_cases h5 : pf < uf
        · have hd5 : decide (uf ≤ pf) = false := by simp; omega
          go_wp2
          refine wp_region_lat (by kernel_rfl) (by kernel_rfl) ?_
          repeat (go_big_quiet_step ((first | (go_at_call 129; exact lat_call _ (reportOk_is true _ _ _ _ _ _ _ _ HQ.out _ (HRV.out _) hvl)))))
          refine wpQuiet_nil ?_
          rintro w3 ⟨⟨_, hb3⟩, rfl⟩
          clear C0 P0
          go_wp2
          go_roundw
          case rel =>
            refine ⟨k + 1, by omega, by go_num, fun j hj => ?_, HBX.out.trans (hb3.mono HBX.out.size)⟩
            by_cases e : j = k
            · rw [e, HG.out]; simp [HQ.out, h5]
            · exact hall.out j (by omega)
          case measure => simp [intOf]; omega
        · have hd5 : decide (uf ≤ pf) = true := by simp; omega
          go_wp2
          refine wp_region_lat (by kernel_rfl) (by kernel_rfl) ?_
          repeat (go_big_quiet_step ((first | (go_at_call 129; exact lat_call _ (reportOk_is true _ _ _ _ _ _ _ _ HQ.out _ (HRV.out _) hvl)))))
          refine wpQuiet_nil ?_
          rintro w3 ⟨⟨_, hb3⟩, rfl⟩
          clear C0 P0
          go_wp2
          go_ret
          refine ⟨ret_bool ?_, HBX.out.trans (hb3.mono HBX.out.size)⟩
          rw [← HZ.out]
          rw [allR_no (k := k) (by rw [rl_len, HV.out]; omega) (by rw [HG.out]; simp [h5]; intro _; omega)]
      · clear hpv
        have hd : decide ((0 : Int) < (k : Int)) = false := by simp; omega
        have HK0 : Hid (k = 0) := by show _ = _; omega
        go_wp2
        refine wp_region_lat (by kernel_rfl) (by kernel_rfl) ?_
        repeat (go_big_quiet_step ((first | (go_at_call 129; exact lat_call _ (reportOk_is true _ _ _ _ _ _ _ _ HQ.out _ (HRV.out _) hvl)))))
        refine wpQuiet_nil ?_
        rintro w3 ⟨⟨_, hb3⟩, rfl⟩
        clear C0
        go_wp2
        go_roundw
        case rel =>
          refine ⟨k + 1, by omega, by go_num, fun j hj => ?_, HBX.out.trans (hb3.mono HBX.out.size)⟩
          by_cases e : j = k
          · rw [e, HG.out]; simp [HQ.out, HK0.out]
          · exact hall.out j (by omega)
        case measure => simp [intOf]; omega
    · go_wp2
      go_ret
      refine ⟨ret_bool ?_, hbel⟩
      rw [← HZ.out, allR_yes fun j hj => hall.out j (by rw [rl_len, HV.out] at hj; omega)]

theorem implReportsOk_is (q : Bool) (n view : Int) (A : Option Addr) (c : Nat) (ps : List Pp) (hq : repsOkB n view (rl ps) = q) (w : World) (hr : RdR w w.heap.size A ps) (hf : Few ps) :
    Calls Try.prog 112 #[.int .i64 n, .int .i64 view, .slice A ps.length c] w fun e w' => e = .returned (.bool q) ∧ Below w.heap.size w w' := by
  rcases hs : sizeB n with _ | _
  · have e : q = false := by rw [← hq]; simp [repsOkB, hs]
    subst e
    have HS := Lib.hid hs; clear hs hq hr
    go_enter Try.func112, Try.ntmps112
    go_wp2_with (go_at_call 80; refine (implSize_is n false HS.out _).mono ?_; rintro e w1 ⟨rfl, rfl⟩)
    go_ret
    exact ⟨rfl, Below.refl _ _⟩
  · rcases hv : viewR view with _ | _
    · have e : q = false := by rw [← hq]; simp [repsOkB, hv]
      subst e
      have HS := Lib.hid hs; clear hs hq hr
      rcases ho : viewOkB view with _ | _
      · have HO := Lib.hid ho; clear ho hv
        go_enter Try.func112, Try.ntmps112
        go_wp2_with (first | (go_at_call 80; refine (implSize_is n true HS.out _).mono ?_; rintro e w1 ⟨rfl, rfl⟩) | (go_at_call 82; refine (implView_is view false HO.out _).mono ?_; rintro e w1 ⟨rfl, rfl⟩))
        go_ret
        exact ⟨rfl, Below.refl _ _⟩
      · obtain rfl : view = 0 := by unfold viewR at hv; unfold viewOkB at ho; simp at hv ho; omega
        have HO := Lib.hid ho; clear ho hv
        go_enter Try.func112, Try.ntmps112
        go_wp2_with (first | (go_at_call 80; refine (implSize_is n true HS.out _).mono ?_; rintro e w1 ⟨rfl, rfl⟩) | (go_at_call 82; refine (implView_is 0 true HO.out _).mono ?_; rintro e w1 ⟨rfl, rfl⟩))
        go_ret
        exact ⟨rfl, Below.refl _ _⟩
    · rw [← hq]; exact implReportsOk_yes n view A c ps w hr hf hs hv
theorem specReportsOk_is (q : Bool) (n view : Int) (A : Option Addr) (c : Nat) (ps : List Pp) (hq : repsOkB n view (rl ps) = q) (w : World) (hr : RdR w w.heap.size A ps) (hf : Few ps) :
    Calls Try.prog 76 #[.int .i64 n, .int .i64 view, .slice A ps.length c] w fun e w' => e = .returned (.bool q) ∧ Below w.heap.size w w' := by
  rw [← hq]; exact specReportsOk_any n view A c ps w hr hf
end Go.Proofs.Ytfdfjmibjnmhpaa.V
