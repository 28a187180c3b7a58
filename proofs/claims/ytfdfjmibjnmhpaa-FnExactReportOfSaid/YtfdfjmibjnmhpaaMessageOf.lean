/-
  What the program's messageOf and MsgOk answer: contracts. No statement is proved here.
-/
import Derived.Test.YtfdfjmibjnmhpaaMsgOkImpl
set_option linter.unusedVariables false
set_option maxRecDepth 100000
namespace Go.Proofs.Ytfdfjmibjnmhpaa.V
open Go.RowKit Go.Proofs.Ytfdfjmibjnmhpaa.B

theorem lat_cell : ∀ (W0 : World) (x : Lat W0) (g i : Nat), g < W0.heap.size → x.w.cell? ⟨g, i, none⟩ = W0.cell? ⟨g, i, none⟩ := fun _ x g i h => x.below.cell (p := ⟨g, i, none⟩) h
theorem below2 (w : World) (o o' : Obj) : Below w.heap.size w ((w.alloc o).alloc o') := ((Below.refl _ _).alloc (Nat.le_refl _) o).alloc (by simp) o'

set_option maxHeartbeats 1600000 in
theorem messageOf_cast (q p : Bool) (k v x a b : Int) (A : Option Addr) (c n : Nat) (hk : k = 0 ∨ k = 1 ∨ k = 2) (hp : decide (a = 0 ∧ b = 0 ∧ n = 0) = p) (hq : (viewOkB v && valOkB x) = q) (w : World) :
    Calls Try.prog 95 #[.agg #[.int .i64 k, .int .i64 v, .int .i64 x, .int .i64 a, .int .i64 b, .slice A n c]] w fun e w' =>
      e = .returned (.tuple #[.iface 163 (.agg #[.int .i64 k, .int .i64 v, .int .i64 x]), .bool (p && q)]) ∧ Below w.heap.size w w' := by
  subst hp
  have LC := lat_cell
  have HQ := Lib.hid hq; clear hq
  by_cases ha : a = 0
  · subst ha
    by_cases hb : b = 0
    · subst hb
      by_cases hn : n = 0
      · subst hn
        rcases hk with rfl | rfl | rfl
        all_goals
          go_enter Try.func95, Try.ntmps95
          go_wp2_with fail
          refine wp_region_lat (by kernel_rfl) (by kernel_rfl) ?_
          repeat (go_big_quiet_step ((go_at_call 117; exact lat_call _ (castOk_is _ _ _ _ HQ.out _))))
          refine wpQuiet_nil ?_
          rintro _ ⟨⟨w3, hb3⟩, rfl⟩
          go_wp2
          go_ret2
          exact ⟨by simp, Below.trans (below2 _ _ _) (hb3.mono (by simp; omega))⟩
      · have hn0 : ((n : Int) == 0) = false := by rw [beq_eq_false_iff_ne]; omega
        have HN := Lib.hid hn; clear hn
        rcases hk with rfl | rfl | rfl
        all_goals
          go_enter Try.func95, Try.ntmps95
          go_wp2_with fail
          refine wp_region_lat (by kernel_rfl) (by kernel_rfl) ?_
          repeat (go_big_quiet_step (fail))
          refine wpQuiet_nil ?_
          rintro _ ⟨⟨w3, hb3⟩, rfl⟩
          go_wp2
          go_ret2
          exact ⟨by simp [HN.out], Below.trans (below2 _ _ _) (hb3.mono (by simp; omega))⟩
    · have HB := Lib.hid hb
      rcases hk with rfl | rfl | rfl
      all_goals
        go_enter Try.func95, Try.ntmps95
        go_wp2_with fail
        refine wp_region_lat (by kernel_rfl) (by kernel_rfl) ?_
        repeat (go_big_quiet_step (fail))
        refine wpQuiet_nil ?_
        rintro _ ⟨⟨w3, hb3⟩, rfl⟩
        go_wp2
        go_ret2
        exact ⟨by simp [HB.out], Below.trans (below2 _ _ _) (hb3.mono (by simp; omega))⟩
  · have HA := Lib.hid ha
    rcases hk with rfl | rfl | rfl
    all_goals
      go_enter Try.func95, Try.ntmps95
      go_wp2_with fail
      refine wp_region_lat (by kernel_rfl) (by kernel_rfl) ?_
      repeat (go_big_quiet_step (fail))
      refine wpQuiet_nil ?_
      rintro _ ⟨⟨w3, hb3⟩, rfl⟩
      go_wp2
      go_ret2
      exact ⟨by simp [HA.out], Below.trans (below2 _ _ _) (hb3.mono (by simp; omega))⟩

end Go.Proofs.Ytfdfjmibjnmhpaa.V
