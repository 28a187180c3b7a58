/-
  What the program's messageOf and MsgOk answer: contracts. No statement is proved here.
-/
import Derived.Test.YtfdfjmibjnmhpaaMessageOf
set_option linter.unusedVariables false
set_option maxRecDepth 100000
namespace Go.Proofs.Ytfdfjmibjnmhpaa.V
open Go.RowKit Go.Proofs.Ytfdfjmibjnmhpaa.B

set_option maxHeartbeats 1600000 in
theorem messageOf_done (q p : Bool) (v x a b : Int) (A : Option Addr) (c n : Nat) (hp : decide (a = 0 ∧ b = 0 ∧ n = 0 ∧ v = 0) = p) (hq : valOkB x = q) (w : World) :
    Calls Try.prog 95 #[.agg #[.int .i64 4, .int .i64 v, .int .i64 x, .int .i64 a, .int .i64 b, .slice A n c]] w fun e w' =>
      e = .returned (.tuple #[.iface 168 (.agg #[.int .i64 x]), .bool (p && q)]) ∧ Below w.heap.size w w' := by
  subst hp
  have LC := lat_cell
  have HQ := Lib.hid hq; clear hq
  by_cases ha : a = 0
  · subst ha
    by_cases hb : b = 0
    · subst hb
      by_cases hn : n = 0
      · subst hn
        by_cases hv : v = 0
        · subst hv
          go_enter Try.func95, Try.ntmps95
          go_wp2_with fail
          refine wp_region_lat (by kernel_rfl) (by kernel_rfl) ?_
          repeat (go_big_quiet_step ((go_at_call 119; exact lat_call _ (doneOk_is _ _ HQ.out _))))
          refine wpQuiet_nil ?_
          rintro _ ⟨⟨w3, hb3⟩, rfl⟩
          go_wp2
          go_ret2
          exact ⟨by simp, Below.trans (below2 _ _ _) (hb3.mono (by simp; omega))⟩
        · have hv0 : (v == 0) = false := by rw [beq_eq_false_iff_ne]; exact hv
          have HV := Lib.hid hv; clear hv
          go_enter Try.func95, Try.ntmps95
          go_wp2_with fail
          refine wp_region_lat (by kernel_rfl) (by kernel_rfl) ?_
          repeat (go_big_quiet_step (fail))
          refine wpQuiet_nil ?_
          rintro _ ⟨⟨w3, hb3⟩, rfl⟩
          go_wp2
          go_ret2
          exact ⟨by simp [HV.out], Below.trans (below2 _ _ _) (hb3.mono (by simp; omega))⟩
      · have hn0 : ((n : Int) == 0) = false := by rw [beq_eq_false_iff_ne]; omega
        have HN := Lib.hid hn; clear hn
        go_enter Try.func95, Try.ntmps95
        go_wp2_with fail
        refine wp_region_lat (by kernel_rfl) (by kernel_rfl) ?_
        repeat (go_big_quiet_step (fail))
        refine wpQuiet_nil ?_
        rintro _ ⟨⟨w3, hb3⟩, rfl⟩
        go_wp2
        go_ret2
        exact ⟨by simp [HN.out], Below.trans (below2 _ _ _) (hb3.mono (by simp; omega))⟩
    · have HB := Lib.hid hb
      go_enter Try.func95, Try.ntmps95
      go_wp2_with fail
      refine wp_region_lat (by kernel_rfl) (by kernel_rfl) ?_
      repeat (go_big_quiet_step (fail))
      refine wpQuiet_nil ?_
      rintro _ ⟨⟨w3, hb3⟩, rfl⟩
      go_wp2
      go_ret2
      exact ⟨by simp [HB.out], Below.trans (below2 _ _ _) (hb3.mono (by simp; omega))⟩
  · have HA := Lib.hid ha
    go_enter Try.func95, Try.ntmps95
    go_wp2_with fail
    refine wp_region_lat (by kernel_rfl) (by kernel_rfl) ?_
    repeat (go_big_quiet_step (fail))
    refine wpQuiet_nil ?_
    rintro _ ⟨⟨w3, hb3⟩, rfl⟩
    go_wp2
    go_ret2
    exact ⟨by simp [HA.out], Below.trans (below2 _ _ _) (hb3.mono (by simp; omega))⟩

set_option maxHeartbeats 1600000 in
theorem messageOf_rep (q p : Bool) (v x a b : Int) (A : Option Addr) (c : Nat) (vs : List (Int × Int)) (hp : decide (x = 0) = p) (hq : repOkB v a b vs = q) (w : World) (hr : Rd w w.heap.size A vs) (hn : vs.length ≤ 1048576) :
    Calls Try.prog 95 #[.agg #[.int .i64 3, .int .i64 v, .int .i64 x, .int .i64 a, .int .i64 b, .slice A vs.length c]] w fun e w' =>
      e = .returned (.tuple #[.iface 166 (.agg #[.int .i64 v, .int .i64 a, .int .i64 b, .slice A vs.length c]), .bool (p && q)]) ∧ Below w.heap.size w w' := by
  subst hp
  have LC := lat_cell
  have HQ := Lib.hid hq; clear hq
  have hR : ∀ O1 O2 (x : Lat ((w.alloc O1).alloc O2)), Rd x.w x.w.heap.size A vs := fun O1 O2 x => by
    have h := (below2 w O1 O2).trans (x.below.mono (by simp; omega))
    exact (hr.below h).more h.size
  have HR := Lib.hid hR; clear hR hr
  obtain ⟨n, hvn⟩ : ∃ n, vs.length = n := ⟨_, rfl⟩
  by_cases hx : x = 0
  · subst hx
    by_cases ha : a = 0
    · subst ha
      by_cases hb : b = 0
      · subst hb
        clear hvn
        go_enter Try.func95, Try.ntmps95
        go_wp2_with fail
        refine wp_region_lat (by kernel_rfl) (by kernel_rfl) ?_
        repeat (go_big_quiet_step ((go_at_call 118; exact lat_call _ (repOk_is _ _ _ _ A c vs HQ.out _ (HR.out _ _ _) hn))))
        refine wpQuiet_nil ?_
        rintro _ ⟨⟨w3, hb3⟩, rfl⟩
        go_wp2
        go_ret2
        exact ⟨by simp, Below.trans (below2 _ _ _) (hb3.mono (by simp; omega))⟩
      · clear hvn
        go_enter Try.func95, Try.ntmps95
        go_wp2_with fail
        refine wp_region_lat (by kernel_rfl) (by kernel_rfl) ?_
        repeat (go_big_quiet_step ((go_at_call 118; exact lat_call _ (repOk_is _ _ _ _ A c vs HQ.out _ (HR.out _ _ _) hn))))
        refine wpQuiet_nil ?_
        rintro _ ⟨⟨w3, hb3⟩, rfl⟩
        go_wp2
        go_ret2
        exact ⟨by simp, Below.trans (below2 _ _ _) (hb3.mono (by simp; omega))⟩
    · clear hvn
      go_enter Try.func95, Try.ntmps95
      go_wp2_with fail
      refine wp_region_lat (by kernel_rfl) (by kernel_rfl) ?_
      repeat (go_big_quiet_step ((go_at_call 118; exact lat_call _ (repOk_is _ _ _ _ A c vs HQ.out _ (HR.out _ _ _) hn))))
      refine wpQuiet_nil ?_
      rintro _ ⟨⟨w3, hb3⟩, rfl⟩
      go_wp2
      go_ret2
      exact ⟨by simp, Below.trans (below2 _ _ _) (hb3.mono (by simp; omega))⟩
  · have hx0 : (x == 0) = false := by rw [beq_eq_false_iff_ne]; exact hx
    have HX := Lib.hid hx; clear hx
    by_cases ha : a = 0
    · subst ha
      by_cases hb : b = 0
      · subst hb
        clear hvn
        go_enter Try.func95, Try.ntmps95
        go_wp2_with fail
        refine wp_region_lat (by kernel_rfl) (by kernel_rfl) ?_
        repeat (go_big_quiet_step (fail))
        refine wpQuiet_nil ?_
        rintro _ ⟨⟨w3, hb3⟩, rfl⟩
        go_wp2
        go_ret2
        exact ⟨by simp [HX.out], Below.trans (below2 _ _ _) (hb3.mono (by simp; omega))⟩
      · clear hvn
        go_enter Try.func95, Try.ntmps95
        go_wp2_with fail
        refine wp_region_lat (by kernel_rfl) (by kernel_rfl) ?_
        repeat (go_big_quiet_step (fail))
        refine wpQuiet_nil ?_
        rintro _ ⟨⟨w3, hb3⟩, rfl⟩
        go_wp2
        go_ret2
        exact ⟨by simp [HX.out], Below.trans (below2 _ _ _) (hb3.mono (by simp; omega))⟩
    · clear hvn
      go_enter Try.func95, Try.ntmps95
      go_wp2_with fail
      refine wp_region_lat (by kernel_rfl) (by kernel_rfl) ?_
      repeat (go_big_quiet_step (fail))
      refine wpQuiet_nil ?_
      rintro _ ⟨⟨w3, hb3⟩, rfl⟩
      go_wp2
      go_ret2
      exact ⟨by simp [HX.out], Below.trans (below2 _ _ _) (hb3.mono (by simp; omega))⟩

set_option maxHeartbeats 1600000 in
theorem messageOf_none (k v x a b : Int) (A : Option Addr) (c n : Nat) (hk : k < 0 ∨ 4 < k) (w : World) :
    Calls Try.prog 95 #[.agg #[.int .i64 k, .int .i64 v, .int .i64 x, .int .i64 a, .int .i64 b, .slice A n c]] w fun e w' =>
      e = .returned (.tuple #[.nilIface, .bool false]) ∧ Below w.heap.size w w' := by
  have k0 : (k == 0) = false := by rw [beq_eq_false_iff_ne]; omega
  have k1 : (k == 1) = false := by rw [beq_eq_false_iff_ne]; omega
  have k2 : (k == 2) = false := by rw [beq_eq_false_iff_ne]; omega
  have k3 : (k == 3) = false := by rw [beq_eq_false_iff_ne]; omega
  have k4 : (k == 4) = false := by rw [beq_eq_false_iff_ne]; omega
  clear hk
  go_enter Try.func95, Try.ntmps95
  go_wp2
  all_goals go_ret2
  all_goals exact ⟨rfl, (Below.refl _ _).alloc (Nat.le_refl _) _⟩
end Go.Proofs.Ytfdfjmibjnmhpaa.V
