/-
  What the functions on reports that the document lists answer, of the model: contracts. No statement is proved here.
-/
import Derived.Test.YtikhakmddcmbpaaSpecCh
set_option linter.unusedVariables false
set_option maxRecDepth 100000
namespace Go.Proofs.Ytikhakmddcmbpaa.V
open Go.RowKit Go.Proofs.Ytikhakmddcmbpaa.B


def witT (n view : Int) (rs : List Rp) (val from_ : Int) : Int := if repsOkB n view rs then (wit rs val from_ : Int) else 0
def groundsT (n view : Int) (rs : List Rp) (val : Int) : Int := if repsOkB n view rs then groundsR n view rs val else -1
def freeT (n view : Int) (rs : List Rp) : Bool := repsOkB n view rs && freeR n rs
def safeT (n view : Int) (rs : List Rp) (val : Int) : Bool := repsOkB n view rs && (valOkB val && safeR n view rs val)
def chooseT (n view : Int) (rs : List Rp) (own : Int) : Int × Bool := if repsOkB n view rs && valOkB own then chooseR n view rs own else (0, false)
def unbT (n view : Int) (rs : List Rp) : Int := if repsOkB n view rs then (unbR rs : Int) else -1
def supT (n view : Int) (rs : List Rp) (val : Int) : Int := if repsOkB n view rs && valOkB val then (supR (groundsR n view rs val) val rs : Int) else -1
theorem reps_size {n view : Int} {rs : List Rp} (h : repsOkB n view rs = true) : sizeB n = true ∧ viewR view = true := by
  unfold repsOkB at h
  simp only [Bool.and_eq_true] at h
  exact h.2

theorem specWitnesses_any (n view : Int) (val : Int) (from_ : Int) (A : Option Addr) (c : Nat) (ps : List Pp) (rs : List Rp) (e0 : rl ps = rs) (w : World) (hr : RdR w w.heap.size A ps) (hf : Few ps) :
    Calls Try.prog 56 #[.int .i64 n, .int .i64 view, .slice A ps.length c, .int .i64 val, .int .i64 from_] w fun e w' => e = .returned (.int .i64 (witT n view rs val from_)) ∧ Below w.heap.size w w' := by
  subst e0
  have HR := Lib.hid hr
  have HF := Lib.hid hf
  rcases hq : repsOkB n view (rl ps) with _ | _
  · have HQ := Lib.hid hq; clear hr hf
    have HZ : Hid (∀ v : Value, v = .int .i64 0 → (.int .i64 (witT n view (rl ps) val from_)) = v) := by show ∀ v, _; intro v hv; rw [hv]; simp [witT, HQ.out]
    have HZ' := HZ.out _ rfl
    rw [HZ']
    clear HZ HZ' hq
    go_enter Try.func56, Try.ntmps56
    go_wp2_with fail
    refine (specReportsOk_is false n view A c ps HQ.out _ HR.out HF.out).mono ?_
    rintro e w1 ⟨rfl, hb1⟩
    go_wp2
    go_ret
    exact ⟨rfl, hb1⟩
  · have HQ := Lib.hid hq
    obtain ⟨hs, hw⟩ := reps_size hq
    have HC := Lib.hid (fun (W : World) (h : RdR W W.heap.size A ps) => ((l3witnesses_any val from_ A c ps W h hf).mono fun _ w' ⟨he, hb⟩ => ⟨he, by rw [hb]; exact Below.refl _ _⟩ : Calls _ _ _ W fun e w' => e = .returned (.int .i64 (wit (rl ps) val from_)) ∧ Below W.heap.size W w'))
    have HZ : Hid (∀ v : Value, v = .int .i64 (wit (rl ps) val from_) → (.int .i64 (witT n view (rl ps) val from_)) = v) := by show ∀ v, _; intro v hv; rw [hv]; simp [witT, HQ.out]
    have HZ' := HZ.out _ rfl
    rw [HZ']
    clear HZ HZ' hq hr hf hs hw
    go_enter Try.func56, Try.ntmps56
    go_wp2_with fail
    refine (specReportsOk_is true n view A c ps HQ.out _ HR.out HF.out).mono ?_
    rintro e w1 ⟨rfl, hb1⟩
    have hr1 := Lib.hid (HR.out.on hb1)
    go_wp2_with fail
    refine (HC.out _ hr1.out).mono ?_
    rintro e w2 ⟨rfl, hb2⟩
    go_wp2
    go_ret
    exact ⟨rfl, on_ hb1 hb2⟩

theorem specGrounds_any (n view : Int) (val : Int) (A : Option Addr) (c : Nat) (ps : List Pp) (rs : List Rp) (e0 : rl ps = rs) (w : World) (hr : RdR w w.heap.size A ps) (hf : Few ps) :
    Calls Try.prog 57 #[.int .i64 n, .int .i64 view, .slice A ps.length c, .int .i64 val] w fun e w' => e = .returned (.int .i64 (groundsT n view rs val)) ∧ Below w.heap.size w w' := by
  subst e0
  have HR := Lib.hid hr
  have HF := Lib.hid hf
  rcases hq : repsOkB n view (rl ps) with _ | _
  · have HQ := Lib.hid hq; clear hr hf
    have HZ : Hid (∀ v : Value, v = .int .i64 (-1) → (.int .i64 (groundsT n view (rl ps) val)) = v) := by show ∀ v, _; intro v hv; rw [hv]; simp [groundsT, HQ.out]
    have HZ' := HZ.out _ rfl
    rw [HZ']
    clear HZ HZ' hq
    go_enter Try.func57, Try.ntmps57
    go_wp2_with fail
    refine (specReportsOk_is false n view A c ps HQ.out _ HR.out HF.out).mono ?_
    rintro e w1 ⟨rfl, hb1⟩
    go_wp2
    go_ret
    exact ⟨rfl, hb1⟩
  · have HQ := Lib.hid hq
    obtain ⟨hs, hw⟩ := reps_size hq
    have HC := Lib.hid (fun (W : World) (h : RdR W W.heap.size A ps) => ((l3grounds_any n view val A c ps hs hw W h hf).mono fun _ w' ⟨he, hb⟩ => ⟨he, by rw [hb]; exact Below.refl _ _⟩ : Calls _ _ _ W fun e w' => e = .returned (.int .i64 (groundsR n view (rl ps) val)) ∧ Below W.heap.size W w'))
    have HZ : Hid (∀ v : Value, v = .int .i64 (groundsR n view (rl ps) val) → (.int .i64 (groundsT n view (rl ps) val)) = v) := by show ∀ v, _; intro v hv; rw [hv]; simp [groundsT, HQ.out]
    have HZ' := HZ.out _ rfl
    rw [HZ']
    clear HZ HZ' hq hr hf hs hw
    go_enter Try.func57, Try.ntmps57
    go_wp2_with fail
    refine (specReportsOk_is true n view A c ps HQ.out _ HR.out HF.out).mono ?_
    rintro e w1 ⟨rfl, hb1⟩
    have hr1 := Lib.hid (HR.out.on hb1)
    go_wp2_with fail
    refine (HC.out _ hr1.out).mono ?_
    rintro e w2 ⟨rfl, hb2⟩
    go_wp2
    go_ret
    exact ⟨rfl, on_ hb1 hb2⟩

theorem specFree_any (n view : Int) (A : Option Addr) (c : Nat) (ps : List Pp) (rs : List Rp) (e0 : rl ps = rs) (w : World) (hr : RdR w w.heap.size A ps) (hf : Few ps) :
    Calls Try.prog 58 #[.int .i64 n, .int .i64 view, .slice A ps.length c] w fun e w' => e = .returned (.bool (freeT n view rs)) ∧ Below w.heap.size w w' := by
  subst e0
  have HR := Lib.hid hr
  have HF := Lib.hid hf
  rcases hq : repsOkB n view (rl ps) with _ | _
  · have HQ := Lib.hid hq; clear hr hf
    have HZ : Hid (∀ v : Value, v = .bool false → (.bool (freeT n view (rl ps))) = v) := by show ∀ v, _; intro v hv; rw [hv]; simp [freeT, HQ.out]
    have HZ' := HZ.out _ rfl
    rw [HZ']
    clear HZ HZ' hq
    go_enter Try.func58, Try.ntmps58
    go_wp2_with fail
    refine (specReportsOk_is false n view A c ps HQ.out _ HR.out HF.out).mono ?_
    rintro e w1 ⟨rfl, hb1⟩
    go_wp2
    go_ret
    exact ⟨rfl, hb1⟩
  · have HQ := Lib.hid hq
    obtain ⟨hs, hw⟩ := reps_size hq
    have HC := Lib.hid (fun (W : World) (h : RdR W W.heap.size A ps) => ((l3free_any n A c ps hs W h hf).mono fun _ w' ⟨he, hb⟩ => ⟨he, by rw [hb]; exact Below.refl _ _⟩ : Calls _ _ _ W fun e w' => e = .returned (.bool (freeR n (rl ps))) ∧ Below W.heap.size W w'))
    have HZ : Hid (∀ v : Value, v = .bool (freeR n (rl ps)) → (.bool (freeT n view (rl ps))) = v) := by show ∀ v, _; intro v hv; rw [hv]; simp [freeT, HQ.out]
    have HZ' := HZ.out _ rfl
    rw [HZ']
    clear HZ HZ' hq hr hf hs hw
    go_enter Try.func58, Try.ntmps58
    go_wp2_with fail
    refine (specReportsOk_is true n view A c ps HQ.out _ HR.out HF.out).mono ?_
    rintro e w1 ⟨rfl, hb1⟩
    have hr1 := Lib.hid (HR.out.on hb1)
    go_wp2_with fail
    refine (HC.out _ hr1.out).mono ?_
    rintro e w2 ⟨rfl, hb2⟩
    go_wp2
    go_ret
    exact ⟨rfl, on_ hb1 hb2⟩

theorem specSafe_any (n view : Int) (val : Int) (A : Option Addr) (c : Nat) (ps : List Pp) (rs : List Rp) (e0 : rl ps = rs) (w : World) (hr : RdR w w.heap.size A ps) (hf : Few ps) :
    Calls Try.prog 59 #[.int .i64 n, .int .i64 view, .slice A ps.length c, .int .i64 val] w fun e w' => e = .returned (.bool (safeT n view rs val)) ∧ Below w.heap.size w w' := by
  subst e0
  have HR := Lib.hid hr
  have HF := Lib.hid hf
  rcases hq : repsOkB n view (rl ps) with _ | _
  · have HQ := Lib.hid hq; clear hr hf
    have HZ : Hid (∀ v : Value, v = .bool false → (.bool (safeT n view (rl ps) val)) = v) := by show ∀ v, _; intro v hv; rw [hv]; simp [safeT, HQ.out]
    have HZ' := HZ.out _ rfl
    rw [HZ']
    clear HZ HZ' hq
    go_enter Try.func59, Try.ntmps59
    go_wp2_with fail
    refine (specReportsOk_is false n view A c ps HQ.out _ HR.out HF.out).mono ?_
    rintro e w1 ⟨rfl, hb1⟩
    go_wp2
    go_ret
    exact ⟨rfl, hb1⟩
  · have HQ := Lib.hid hq
    obtain ⟨hs, hw⟩ := reps_size hq
    rcases hv : valOkB val with _ | _
    · have HV := Lib.hid hv
      have HZ : Hid (∀ v : Value, v = .bool false → (.bool (safeT n view (rl ps) val)) = v) := by show ∀ v, _; intro v hv; rw [hv]; simp [safeT, HQ.out, HV.out]
      have HZ' := HZ.out _ rfl
      rw [HZ']
      clear HZ HZ' hq hr hf hs hw hv
      go_enter Try.func59, Try.ntmps59
      go_wp2_with fail
      refine (specReportsOk_is true n view A c ps HQ.out _ HR.out HF.out).mono ?_
      rintro e w1 ⟨rfl, hb1⟩
      go_wp2_with fail
      refine (specVal_is val false HV.out _).mono ?_
      rintro e w2 ⟨rfl, rfl⟩
      go_wp2
      go_ret
      exact ⟨rfl, hb1⟩
    · have HV := Lib.hid hv
      have HC := Lib.hid (fun (W : World) (h : RdR W W.heap.size A ps) => l3safe_any n view val A c ps hs hw W h hf)
      have HZ : Hid (∀ v : Value, v = .bool (safeR n view (rl ps) val) → (.bool (safeT n view (rl ps) val)) = v) := by show ∀ v, _; intro v hv; rw [hv]; simp [safeT, HQ.out, HV.out]
      have HZ' := HZ.out _ rfl
      rw [HZ']
      clear HZ HZ' hq hr hf hs hw hv
      go_enter Try.func59, Try.ntmps59
      go_wp2_with fail
      refine (specReportsOk_is true n view A c ps HQ.out _ HR.out HF.out).mono ?_
      rintro e w1 ⟨rfl, hb1⟩
      have hr1 := Lib.hid (HR.out.on hb1)
      go_wp2_with fail
      refine (specVal_is val true HV.out _).mono ?_
      rintro e w2 ⟨rfl, h2⟩
      obtain rfl := h2.symm
      go_wp2_with fail
      refine (HC.out _ hr1.out).mono ?_
      rintro e w2 ⟨rfl, hb2⟩
      go_wp2
      go_ret
      exact ⟨rfl, on_ hb1 hb2⟩

theorem specChoose_any (n view : Int) (own : Int) (A : Option Addr) (c : Nat) (ps : List Pp) (rs : List Rp) (e0 : rl ps = rs) (w : World) (hr : RdR w w.heap.size A ps) (hf : Few ps) :
    Calls Try.prog 60 #[.int .i64 n, .int .i64 view, .slice A ps.length c, .int .i64 own] w fun e w' => e = .returned (.tuple #[.int .i64 (chooseT n view rs own).1, .bool (chooseT n view rs own).2]) ∧ Below w.heap.size w w' := by
  subst e0
  have HR := Lib.hid hr
  have HF := Lib.hid hf
  rcases hq : repsOkB n view (rl ps) with _ | _
  · have HQ := Lib.hid hq; clear hr hf
    have HZ : Hid (∀ v : Value, v = .tuple #[.int .i64 0, .bool false] → (.tuple #[.int .i64 (chooseT n view (rl ps) own).1, .bool (chooseT n view (rl ps) own).2]) = v) := by show ∀ v, _; intro v hv; rw [hv]; simp [chooseT, HQ.out]
    have HZ' := HZ.out _ rfl
    rw [HZ']
    clear HZ HZ' hq
    go_enter Try.func60, Try.ntmps60
    go_wp2_with fail
    refine (specReportsOk_is false n view A c ps HQ.out _ HR.out HF.out).mono ?_
    rintro e w1 ⟨rfl, hb1⟩
    go_wp2
    go_ret2
    exact ⟨rfl, hb1⟩
  · have HQ := Lib.hid hq
    obtain ⟨hs, hw⟩ := reps_size hq
    rcases hv : valOkB own with _ | _
    · have HV := Lib.hid hv
      have HZ : Hid (∀ v : Value, v = .tuple #[.int .i64 0, .bool false] → (.tuple #[.int .i64 (chooseT n view (rl ps) own).1, .bool (chooseT n view (rl ps) own).2]) = v) := by show ∀ v, _; intro v hv; rw [hv]; simp [chooseT, HQ.out, HV.out]
      have HZ' := HZ.out _ rfl
      rw [HZ']
      clear HZ HZ' hq hr hf hs hw hv
      go_enter Try.func60, Try.ntmps60
      go_wp2_with fail
      refine (specReportsOk_is true n view A c ps HQ.out _ HR.out HF.out).mono ?_
      rintro e w1 ⟨rfl, hb1⟩
      go_wp2_with fail
      refine (specVal_is own false HV.out _).mono ?_
      rintro e w2 ⟨rfl, rfl⟩
      go_wp2
      go_ret2
      exact ⟨rfl, hb1⟩
    · have HV := Lib.hid hv
      have HC := Lib.hid (fun (W : World) (h : RdR W W.heap.size A ps) => l3choose_any n view own A c ps hs hw W h hf)
      have HZ : Hid (∀ v : Value, v = .tuple #[.int .i64 (chooseR n view (rl ps) own).1, .bool (chooseR n view (rl ps) own).2] → (.tuple #[.int .i64 (chooseT n view (rl ps) own).1, .bool (chooseT n view (rl ps) own).2]) = v) := by show ∀ v, _; intro v hv; rw [hv]; simp [chooseT, HQ.out, HV.out]
      have HZ' := HZ.out _ rfl
      rw [HZ']
      clear HZ HZ' hq hr hf hs hw hv
      go_enter Try.func60, Try.ntmps60
      go_wp2_with fail
      refine (specReportsOk_is true n view A c ps HQ.out _ HR.out HF.out).mono ?_
      rintro e w1 ⟨rfl, hb1⟩
      have hr1 := Lib.hid (HR.out.on hb1)
      go_wp2_with fail
      refine (specVal_is own true HV.out _).mono ?_
      rintro e w2 ⟨rfl, h2⟩
      obtain rfl := h2.symm
      go_wp2_with fail
      refine (HC.out _ hr1.out).mono ?_
      rintro e w2 ⟨rfl, hb2⟩
      go_wp2
      go_ret2
      exact ⟨rfl, on_ hb1 hb2⟩

set_option maxHeartbeats 800000 in
theorem specUnbound_any (n view : Int) (A : Option Addr) (c : Nat) (ps : List Pp) (rs : List Rp) (e0 : rl ps = rs) (w : World) (hr : RdR w w.heap.size A ps) (hf : Few ps) :
    Calls Try.prog 61 #[.int .i64 n, .int .i64 view, .slice A ps.length c] w fun e w' => e = .returned (.int .i64 (unbT n view rs)) ∧ Below w.heap.size w w' := by
  subst e0
  have HR := Lib.hid hr
  have HF := Lib.hid hf
  rcases hq : repsOkB n view (rl ps) with _ | _
  · have HQ := Lib.hid hq; clear hr hf
    have HZ : Hid (∀ v : Value, v = .int .i64 (-1) → (.int .i64 (unbT n view (rl ps))) = v) := by show ∀ v, _; intro v hv; rw [hv]; simp [unbT, HQ.out]
    have HZ' := HZ.out _ rfl
    rw [HZ']
    clear HZ HZ' hq
    go_enter Try.func61, Try.ntmps61
    go_wp2_with fail
    refine (specReportsOk_is false n view A c ps HQ.out _ HR.out HF.out).mono ?_
    rintro e w1 ⟨rfl, hb1⟩
    go_wp2
    go_ret
    exact ⟨rfl, hb1⟩
  · have HQ := Lib.hid hq
    have HZ : Hid (unbT n view (rl ps) = ((rl ps).countP freeL : Int)) := by show _ = _; simp [unbT, HQ.out, unbR]
    rw [HZ.out]
    have HOK := Lib.hid (specReportsOk_is true n view A c ps HQ.out _ HR.out HF.out)
    have HS := Lib.hid (fun k h => take_cnt freeL (rl ps) zR k h)
    clear HZ hq hr HF
    obtain ⟨hn, hv⟩ := hf
    obtain ⟨m, hvm⟩ : ∃ m, ps.length = m := ⟨_, rfl⟩
    rw [hvm] at hn HOK ⊢
    clear hv
    have HV := Lib.hid hvm; clear hvm
    go_enter Try.func61, Try.ntmps61
    go_wp2_with fail
    refine HOK.out.mono ?_
    rintro e w1 ⟨rfl, hb1⟩
    have hr1 := Lib.hid (HR.out.on hb1)
    clear HOK HR
    have HR := hr1; clear hr1
    go_wp2
    go_loop [7, 8] (fun a i => ∃ (k y : Nat), k ≤ m ∧ y ≤ k ∧ i = .int .i64 k ∧ a = .int .i64 y ∧ Hid (((rl ps).take k).countP freeL = y)) (fun _ i => m - (intOf i).toNat)
    case atStart => exact ⟨0, 0, Nat.zero_le _, Nat.le_refl _, rfl, rfl, by show _ = _; simp⟩
    case round =>
      obtain ⟨k, y, hk, hyk, rfl, rfl, hy⟩ := hrel
      by_cases hlt : k < m
      · obtain ⟨b, off, rfl, hb, hc0, hc1, hc2, hc3, hrv⟩ := RdR.at_ HR.out (k := k) (by rw [HV.out]; omega)
        have hst := HS.out k (by rw [rl_len, HV.out]; exact hlt)
        rw [rl_at] at hst
        obtain ⟨⟨⟨f, v, x, vs⟩, A', c'⟩, hu⟩ : ∃ u, ps.getD k zP = u := ⟨_, rfl⟩
        rw [hu] at hc0 hc1 hc2 hst
        simp only at hc0 hc1 hc2
        rw [hy.out] at hst
        clear hu hc0 hc3 hrv
        have HST := Lib.hid hst; clear hst hy
        by_cases hx : x = 0
        · subst hx
          have HSB : Hid (((rl ps).take (k + 1)).countP freeL = y + 1) := by show _ = _; rw [HST.out]; simp [freeL]
          go_wp2
          go_round
          case rel => exact ⟨k + 1, y + 1, by omega, by omega, by go_num, by go_num, HSB⟩
          case measure => simp [intOf]; omega
        · have hx' : (x == 0) = false := by simpa using hx
          have HSB : Hid (((rl ps).take (k + 1)).countP freeL = y) := by show _ = _; rw [HST.out]; simp [freeL, hx]
          have HX := Lib.hid hx; clear hx
          go_wp2
          go_round
          case rel => exact ⟨k + 1, y, by omega, by omega, by go_num, rfl, HSB⟩
          case measure => simp [intOf]; omega
      · have hkm : k = m := by omega
        subst hkm
        have hyy := hy.out
        rw [List.take_of_length_le (by rw [rl_len, HV.out]; omega)] at hyy
        go_wp2
        go_ret
        exact ⟨rfl, hb1⟩

set_option maxHeartbeats 1600000 in
theorem specSupports_any (n view : Int) (val : Int) (A : Option Addr) (c : Nat) (ps : List Pp) (rs : List Rp) (e0 : rl ps = rs) (w : World) (hr : RdR w w.heap.size A ps) (hf : Few ps) :
    Calls Try.prog 64 #[.int .i64 n, .int .i64 view, .slice A ps.length c, .int .i64 val] w fun e w' => e = .returned (.int .i64 (supT n view rs val)) ∧ Below w.heap.size w w' := by
  subst e0
  have HR := Lib.hid hr
  have HF := Lib.hid hf
  rcases hq : repsOkB n view (rl ps) with _ | _
  · have HQ := Lib.hid hq; clear hr hf
    have HZ : Hid (∀ v : Value, v = .int .i64 (-1) → (.int .i64 (supT n view (rl ps) val)) = v) := by show ∀ v, _; intro v hv; rw [hv]; simp [supT, HQ.out]
    have HZ' := HZ.out _ rfl
    rw [HZ']
    clear HZ HZ' hq
    go_enter Try.func64, Try.ntmps64
    go_wp2_with fail
    refine (specReportsOk_is false n view A c ps HQ.out _ HR.out HF.out).mono ?_
    rintro e w1 ⟨rfl, hb1⟩
    go_wp2
    go_ret
    exact ⟨rfl, hb1⟩
  · have HQ := Lib.hid hq
    obtain ⟨hs, hw⟩ := reps_size hq
    have HOK := Lib.hid (specReportsOk_is true n view A c ps HQ.out _ HR.out HF.out)
    rcases hv : valOkB val with _ | _
    · have HV := Lib.hid hv
      have HZ : Hid (supT n view (rl ps) val = -1) := by show _ = _; simp [supT, HQ.out, HV.out]
      rw [HZ.out]
      clear HZ hq hr hf hs hw hv
      go_enter Try.func64, Try.ntmps64
      go_wp2_with fail
      refine HOK.out.mono ?_
      rintro e w1 ⟨rfl, hb1⟩
      go_wp2_with fail
      refine (specVal_is val false HV.out _).mono ?_
      rintro e w2 ⟨rfl, rfl⟩
      go_wp2
      go_ret
      exact ⟨rfl, hb1⟩
    · have HVV := Lib.hid hv
      have HGR := Lib.hid (fun (W : World) (h : RdR W W.heap.size A ps) => l3grounds_any n view val A c ps hs hw W h hf)
      have hg9 : groundsR n view (rl ps) val ≤ 9 := by have := last_lo (groundR n (rl ps) val) view.toNat; unfold viewR at hw; simp at hw; unfold groundsR; omega
      have hg1 : -1 ≤ groundsR n view (rl ps) val := (last_lo (groundR n (rl ps) val) view.toNat).1
      have HZ : Hid (supT n view (rl ps) val = ((rl ps).countP (supL (groundsR n view (rl ps) val) val) : Int)) := by show _ = _; simp [supT, HQ.out, HVV.out, supR]
      rw [HZ.out]
      obtain ⟨u, hu⟩ : ∃ u, groundsR n view (rl ps) val = u := ⟨_, rfl⟩
      rw [hu] at HGR hg9 hg1 ⊢
      have HS := Lib.hid (fun k h => take_cnt (supL u val) (rl ps) zR k h)
      clear HZ hq hr HF hs hw hv hu
      obtain ⟨hn, hv⟩ := hf
      obtain ⟨m, hvm⟩ : ∃ m, ps.length = m := ⟨_, rfl⟩
      rw [hvm] at hn HOK HGR ⊢
      clear hv
      have HV := Lib.hid hvm; clear hvm
      go_enter Try.func64, Try.ntmps64
      go_wp2_with fail
      refine HOK.out.mono ?_
      rintro e w1 ⟨rfl, hb1⟩
      have hr1 := Lib.hid (HR.out.on hb1)
      clear HOK HR
      have HR := hr1; clear hr1
      go_wp2_with fail
      refine (specVal_is val true HVV.out _).mono ?_
      rintro e w2 ⟨rfl, h2⟩
      obtain rfl := h2.symm
      have HGR1 := Lib.hid (HGR.out _ HR.out); clear HGR
      go_wp2_with fail
      refine HGR1.out.mono ?_
      rintro e w2 ⟨rfl, h2⟩
      obtain rfl := h2.symm
      clear HGR1
      go_wp2
      go_loopw [10, 11] (fun a i wr => ∃ (k y : Nat), k ≤ m ∧ y ≤ k ∧ i = .int .i64 k ∧ a = .int .i64 y ∧ Hid (((rl ps).take k).countP (supL u val) = y) ∧ Below w1.heap.size w1 wr) (fun _ i _ => m - (intOf i).toNat)
      case atStart => exact ⟨0, 0, Nat.zero_le _, Nat.le_refl _, rfl, rfl, by show _ = _; simp, Below.refl _ _⟩
      case round =>
        obtain ⟨k, y, hk, hyk, rfl, rfl, hy, hbel⟩ := hrel
        by_cases hlt : k < m
        · obtain ⟨b, off, rfl, hb, hc0, hc1, hc2, hc3, hrv⟩ := RdR.at_ (HR.out.below hbel) (k := k) (by rw [HV.out]; omega)
          have hst := HS.out k (by rw [rl_len, HV.out]; exact hlt)
          rw [rl_at] at hst
          obtain ⟨⟨⟨f, v, x, vs⟩, A', c'⟩, hu⟩ : ∃ u, ps.getD k zP = u := ⟨_, rfl⟩
          rw [hu] at hc0 hc1 hc2 hst
          simp only at hc0 hc1 hc2
          rw [hy.out] at hst
          clear hu hc0 hc3 hrv
          have HST := Lib.hid hst; clear hst hy
          by_cases hx : x = 0
          · subst hx
            have HSB : Hid (((rl ps).take (k + 1)).countP (supL u val) = y + 1) := by show _ = _; rw [HST.out, sup_dec, decide_eq_true (Or.inl rfl)]; rfl
            go_wp2
            go_roundw
            case rel => exact ⟨k + 1, y + 1, by omega, by omega, by go_num, by go_num, HSB, hbel.alloc hbel.size _⟩
            case measure => simp [intOf]; omega
          · have hx' : (x == 0) = false := by simpa using hx
            by_cases hu : 0 ≤ u
            · by_cases hvu : v < u
              · skip
                have HSB : Hid (((rl ps).take (k + 1)).countP (supL u val) = y + 1) := by show _ = _; rw [HST.out, sup_dec, decide_eq_true (by simp only; omega)]; rfl
                have HX := Lib.hid hx; clear hx
                go_wp2
                go_roundw
                case rel => exact ⟨k + 1, y + 1, by omega, by omega, by go_num, by go_num, HSB, hbel.alloc hbel.size _⟩
                case measure => simp [intOf]; omega
              · by_cases hxv : x = val
                · have hxq : (x == val) = true := by rw [hxv]; simp
                  have HSB : Hid (((rl ps).take (k + 1)).countP (supL u val) = y + 1) := by show _ = _; rw [HST.out, sup_dec, decide_eq_true (by simp only; omega)]; rfl
                  have HX := Lib.hid hx; clear hx
                  have HXV := Lib.hid hxv; clear hxv
                  go_wp2
                  go_roundw
                  case rel => exact ⟨k + 1, y + 1, by omega, by omega, by go_num, by go_num, HSB, hbel.alloc hbel.size _⟩
                  case measure => simp [intOf]; omega
                · have hxq : (x == val) = false := by simpa using hxv
                  have HSB : Hid (((rl ps).take (k + 1)).countP (supL u val) = y) := by show _ = _; rw [HST.out, sup_dec, decide_eq_false (by simp only; omega)]; rfl
                  have HX := Lib.hid hx; clear hx
                  have HXV := Lib.hid hxv; clear hxv
                  go_wp2
                  go_roundw
                  case rel => exact ⟨k + 1, y, by omega, by omega, by go_num, rfl, HSB, hbel.alloc hbel.size _⟩
                  case measure => simp [intOf]; omega
            · skip
              have HSB : Hid (((rl ps).take (k + 1)).countP (supL u val) = y) := by show _ = _; rw [HST.out, sup_dec, decide_eq_false (by simp only; omega)]; rfl
              have HX := Lib.hid hx; clear hx
              go_wp2
              go_roundw
              case rel => exact ⟨k + 1, y, by omega, by omega, by go_num, rfl, HSB, hbel.alloc hbel.size _⟩
              case measure => simp [intOf]; omega
        · have hkm : k = m := by omega
          subst hkm
          have hyy := hy.out
          rw [List.take_of_length_le (by rw [rl_len, HV.out]; omega)] at hyy
          go_wp2
          go_ret
          first | exact ⟨rfl, on_ hb1 hbel⟩ | exact ⟨ret_int2 (by rw [hyy]), on_ hb1 hbel⟩
end Go.Proofs.Ytikhakmddcmbpaa.V
