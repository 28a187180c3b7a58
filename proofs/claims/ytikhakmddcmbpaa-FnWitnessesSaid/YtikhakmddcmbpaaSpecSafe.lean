/-
  What is free and what is safe, of the model: contracts. No statement is proved here.
-/
import Derived.Test.YtikhakmddcmbpaaSpecWit
set_option linter.unusedVariables false
set_option maxRecDepth 100000
namespace Go.Proofs.Ytikhakmddcmbpaa.V
open Go.RowKit Go.Proofs.Ytikhakmddcmbpaa.B

theorem sup_dec (u val : Int) (r : Rp) : supL u val r = decide (r.x = 0 ∨ 0 ≤ u ∧ (r.v < u ∨ r.x = val)) := by
  unfold supL
  simp [Bool.decide_or, Bool.decide_and]
theorem strong_pos {n : Int} (h : sizeB n = true) : strongR n = 3 ∨ strongR n = 5 := by
  rcases size_two h with rfl | rfl
  · left; decide
  · right; decide

set_option maxHeartbeats 800000 in
theorem l3free_any (n : Int) (A : Option Addr) (c : Nat) (ps : List Pp) (hs : sizeB n = true) (w : World) (hr : RdR w w.heap.size A ps) (hf : Few ps) :
    Calls Try.prog 107 #[.int .i64 n, .slice A ps.length c] w fun e w' => e = .returned (.bool (freeR n (rl ps))) ∧ w = w' := by
  obtain ⟨z, hz⟩ : ∃ z, freeR n (rl ps) = z := ⟨_, rfl⟩
  rw [hz]
  have HZ := Lib.hid hz
  obtain ⟨q, hq⟩ : ∃ q, strongR n = q := ⟨_, rfl⟩
  have hq7 := strong_pos hs
  rw [hq] at hq7
  have HSTR := Lib.hid (fun W => l2strong_is n q hs hq W)
  have HQ := Lib.hid hq
  clear hz hs hq
  obtain ⟨hn, hv⟩ := hf
  obtain ⟨m, hvm⟩ : ∃ m, ps.length = m := ⟨_, rfl⟩
  rw [hvm] at hn hv ⊢
  clear hv
  have HV := Lib.hid hvm; clear hvm
  have HR := Lib.hid hr; clear hr
  have HS := Lib.hid (fun k h => take_cnt freeL (rl ps) zR k h)
  go_enter Try.func107, Try.ntmps107
  go_wp2
  go_loop [5, 6] (fun a i => ∃ (k y : Nat), k ≤ m ∧ y ≤ k ∧ i = .int .i64 k ∧ a = .int .i64 y ∧ Hid (((rl ps).take k).countP freeL = y)) (fun _ i => m - (intOf i).toNat)
  case atStart => exact ⟨0, 0, Nat.zero_le _, Nat.le_refl _, rfl, rfl, by show _ = _; simp⟩
  case round =>
    obtain ⟨k, y, hk, hyk, rfl, rfl, hy⟩ := hrel
    by_cases hlt : k < m
    · obtain ⟨b, off, rfl, hb, hc0, hc1, hc2, hc3, hrv⟩ := RdR.at_ HR.out (k := k) (by rw [HV.out]; omega)
      have hst := HS.out k (by rw [rl_len, HV.out]; exact hlt)
      rw [rl_at] at hst
      obtain ⟨⟨⟨f, v, x, vs⟩, A', c'⟩, hu⟩ : ∃ u, ps.getD k zP = u := ⟨_, rfl⟩
      rw [hu] at hc0 hc1 hc2 hst
      simp only at hc0 hc1 hc2
      rw [hy.out] at hst
      clear hu hc0 hc3 hrv
      have HST := Lib.hid hst; clear hst hy
      by_cases hx : x = 0
      · subst hx
        have HSB : Hid (((rl ps).take (k + 1)).countP freeL = y + 1) := by show _ = _; rw [HST.out]; simp [freeL]
        go_wp2
        go_round
        case rel => exact ⟨k + 1, y + 1, by omega, by omega, by go_num, by go_num, HSB⟩
        case measure => simp [intOf]; omega
      · have hx' : (x == 0) = false := by simpa using hx
        have HSB : Hid (((rl ps).take (k + 1)).countP freeL = y) := by show _ = _; rw [HST.out]; simp [freeL, hx]
        have HX := Lib.hid hx; clear hx
        go_wp2
        go_round
        case rel => exact ⟨k + 1, y, by omega, by omega, by go_num, rfl, HSB⟩
        case measure => simp [intOf]; omega
    · have hkm : k = m := by omega
      subst hkm
      have hyy := hy.out
      rw [List.take_of_length_le (by rw [rl_len, HV.out]; omega)] at hyy
      have hzz : z = decide (q ≤ (y : Int)) := by rw [← HZ.out]; unfold freeR unbR; rw [HQ.out, hyy]
      have HZZ := Lib.hid hzz; clear hzz hyy hy
      go_wp2_with (go_at_call 88; refine (HSTR.out _).mono ?_; rintro e w1 ⟨rfl, h1⟩; obtain rfl := h1.symm)
      go_ret
      exact ⟨ret_bool HZZ.out.symm, rfl⟩

set_option maxHeartbeats 1600000 in
theorem l3safe_any (n view val : Int) (A : Option Addr) (c : Nat) (ps : List Pp) (hs : sizeB n = true) (hw : viewR view = true) (w : World) (hr : RdR w w.heap.size A ps) (hf : Few ps) :
    Calls Try.prog 108 #[.int .i64 n, .int .i64 view, .slice A ps.length c, .int .i64 val] w fun e w' => e = .returned (.bool (safeR n view (rl ps) val)) ∧ Below w.heap.size w w' := by
  obtain ⟨z, hz⟩ : ∃ z, safeR n view (rl ps) val = z := ⟨_, rfl⟩
  rw [hz]
  have HFR := Lib.hid (l3free_any n A c ps hs w hr hf)
  have HGR := Lib.hid (l3grounds_any n view val A c ps hs hw w hr hf)
  obtain ⟨q, hq⟩ : ∃ q, strongR n = q := ⟨_, rfl⟩
  have hq7 := strong_pos hs
  rw [hq] at hq7
  have HSTR := Lib.hid (fun W => l2strong_is n q hs hq W)
  have hzs : z = (freeR n (rl ps) || (decide (0 ≤ groundsR n view (rl ps) val) && decide (q ≤ (supR (groundsR n view (rl ps) val) val (rl ps) : Int)))) := by rw [← hz]; unfold safeR; rw [hq]
  have hg9 : groundsR n view (rl ps) val ≤ 9 := by have := last_lo (groundR n (rl ps) val) view.toNat; unfold viewR at hw; simp at hw; unfold groundsR; omega
  have hg1 : -1 ≤ groundsR n view (rl ps) val := (last_lo (groundR n (rl ps) val) view.toNat).1
  obtain ⟨u, hu⟩ : ∃ u, groundsR n view (rl ps) val = u := ⟨_, rfl⟩
  obtain ⟨fr, hfr⟩ : ∃ fr, freeR n (rl ps) = fr := ⟨_, rfl⟩
  rw [hfr] at HFR hzs
  rw [hu] at HGR hzs hg9 hg1
  have HZ := Lib.hid hzs
  clear hz hs hq hw hu hfr hzs
  obtain ⟨hn, hv⟩ := hf
  obtain ⟨m, hvm⟩ : ∃ m, ps.length = m := ⟨_, rfl⟩
  rw [hvm] at hn hv HFR HGR ⊢
  clear hv
  have HV := Lib.hid hvm; clear hvm
  have HR := Lib.hid hr; clear hr
  have HS := Lib.hid (fun k h => take_cnt (supL u val) (rl ps) zR k h)
  cases fr
  case true =>
    go_enter Try.func108, Try.ntmps108
    go_wp2_with (go_at_call 107; refine HFR.out.mono ?_; rintro e w1 ⟨rfl, rfl⟩)
    go_ret
    exact ⟨ret_bool (by rw [HZ.out]; rfl), Below.refl _ _⟩
  case false =>
    go_enter Try.func108, Try.ntmps108
    go_wp2_with (first | (go_at_call 107; refine HFR.out.mono ?_; rintro e w1 ⟨rfl, rfl⟩) | (go_at_call 106; refine HGR.out.mono ?_; rintro e w1 ⟨rfl, h1⟩; obtain rfl := h1.symm))
    clear HFR HGR
    go_loopw [10, 11] (fun a i wr => ∃ (k y : Nat), k ≤ m ∧ y ≤ k ∧ i = .int .i64 k ∧ a = .int .i64 y ∧ Hid (((rl ps).take k).countP (supL u val) = y) ∧ Below w.heap.size w wr) (fun _ i _ => m - (intOf i).toNat)
    case atStart => exact ⟨0, 0, Nat.zero_le _, Nat.le_refl _, rfl, rfl, by show _ = _; simp, Below.refl _ _⟩
    case round =>
      obtain ⟨k, y, hk, hyk, rfl, rfl, hy, hbel⟩ := hrel
      by_cases hlt : k < m
      · obtain ⟨b, off, rfl, hb, hc0, hc1, hc2, hc3, hrv⟩ := RdR.at_ (HR.out.below hbel) (k := k) (by rw [HV.out]; omega)
        have hst := HS.out k (by rw [rl_len, HV.out]; exact hlt)
        rw [rl_at] at hst
        obtain ⟨⟨⟨f, v, x, vs⟩, A', c'⟩, hu⟩ : ∃ u, ps.getD k zP = u := ⟨_, rfl⟩
        rw [hu] at hc0 hc1 hc2 hst
        simp only at hc0 hc1 hc2
        rw [hy.out] at hst
        clear hu hc0 hc3 hrv
        have HST := Lib.hid hst; clear hst hy
        by_cases hx : x = 0
        · subst hx
          have HSB : Hid (((rl ps).take (k + 1)).countP (supL u val) = y + 1) := by show _ = _; rw [HST.out, sup_dec, decide_eq_true (Or.inl rfl)]; rfl
          go_wp2
          go_roundw
          case rel => exact ⟨k + 1, y + 1, by omega, by omega, by go_num, by go_num, HSB, hbel.alloc hbel.size _⟩
          case measure => simp [intOf]; omega
        · have hx' : (x == 0) = false := by simpa using hx
          by_cases hu : 0 ≤ u
          · by_cases hvu : v < u
            · skip
              have HSB : Hid (((rl ps).take (k + 1)).countP (supL u val) = y + 1) := by show _ = _; rw [HST.out, sup_dec, decide_eq_true (by simp only; omega)]; rfl
              have HX := Lib.hid hx; clear hx
              go_wp2
              go_roundw
              case rel => exact ⟨k + 1, y + 1, by omega, by omega, by go_num, by go_num, HSB, hbel.alloc hbel.size _⟩
              case measure => simp [intOf]; omega
            · by_cases hxv : x = val
              · have hxq : (x == val) = true := by rw [hxv]; simp
                have HSB : Hid (((rl ps).take (k + 1)).countP (supL u val) = y + 1) := by show _ = _; rw [HST.out, sup_dec, decide_eq_true (by simp only; omega)]; rfl
                have HX := Lib.hid hx; clear hx
                have HXV := Lib.hid hxv; clear hxv
                go_wp2
                go_roundw
                case rel => exact ⟨k + 1, y + 1, by omega, by omega, by go_num, by go_num, HSB, hbel.alloc hbel.size _⟩
                case measure => simp [intOf]; omega
              · have hxq : (x == val) = false := by simpa using hxv
                have HSB : Hid (((rl ps).take (k + 1)).countP (supL u val) = y) := by show _ = _; rw [HST.out, sup_dec, decide_eq_false (by simp only; omega)]; rfl
                have HX := Lib.hid hx; clear hx
                have HXV := Lib.hid hxv; clear hxv
                go_wp2
                go_roundw
                case rel => exact ⟨k + 1, y, by omega, by omega, by go_num, rfl, HSB, hbel.alloc hbel.size _⟩
                case measure => simp [intOf]; omega
          · skip
            have HSB : Hid (((rl ps).take (k + 1)).countP (supL u val) = y) := by show _ = _; rw [HST.out, sup_dec, decide_eq_false (by simp only; omega)]; rfl
            have HX := Lib.hid hx; clear hx
            go_wp2
            go_roundw
            case rel => exact ⟨k + 1, y, by omega, by omega, by go_num, rfl, HSB, hbel.alloc hbel.size _⟩
            case measure => simp [intOf]; omega
      · have hkm : k = m := by omega
        subst hkm
        have hyy := hy.out
        rw [List.take_of_length_le (by rw [rl_len, HV.out]; omega)] at hyy
        have HZZ : Hid (z = (decide (0 ≤ u) && decide (q ≤ (y : Int)))) := by show _ = _; rw [HZ.out]; unfold supR; rw [hyy]; rfl
        clear hyy hy
        by_cases hu : 0 ≤ u
        · go_wp2_with (go_at_call 88; refine (HSTR.out _).mono ?_; rintro e w1 ⟨rfl, h1⟩; obtain rfl := h1.symm)
          go_ret
          exact ⟨ret_bool (by rw [HZZ.out]; simp [hu]), hbel⟩
        · go_wp2
          go_ret
          exact ⟨ret_bool (by rw [HZZ.out]; simp; intros; omega), hbel⟩
end Go.Proofs.Ytikhakmddcmbpaa.V
