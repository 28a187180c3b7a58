/-
  StoreNew of the model and of the program: contracts. No statement is proved here.
-/
import Derived.Test.YtbogagddjkghhaaDoorStL
set_option linter.unusedVariables false
set_option maxRecDepth 100000
namespace Go.Proofs.YtbogagddjkghhaaDoor.V
open Go.RowKit Go.Proofs.YtbogagddjkghhaaDoor.B
theorem MI.up {w : World} {t base n : Nat} {A : Option Addr} {k : Int} (h : MI w t base A n k) (O : Obj) : MI (w.alloc O) t base A n k := h.on ((Below.refl _ _).alloc (Nat.le_refl _) O)
/-- A store of the call's own. -/
def SG0 (us : List Int) (m : Int) (w : World) (e : Ending) (w' : World) : Prop :=
  ∃ A d, e = .returned (.agg #[.slice A us.length d, .int .i64 m]) ∧ us.length ≤ d ∧ OI w' 3 w.heap.size A us ∧ Below w.heap.size w w'
theorem mk4 : ∀ u : World, (Instr.makeSlice 44 (.int .i64 4) (.int .i64 4)).run Tryd.prog u = .ok (.slice (some ⟨u.heap.size, 0, none⟩) 4 4) (u.alloc (.cells #[.int .i64 0, .int .i64 0, .int .i64 0, .int .i64 0] 3)) := fun u => by
  obtain ⟨i0, hi, hz0, hz1, hz2⟩ := info_parts infoI7
  have h := run_make_rowN (P := Tryd.prog) 44 3 i0 (.int .i64 0) Tryd.underlying44 hi hz0 .i64 .i64 4 4 (Nat.le_refl _) (by rw [hz2]; omega) (by omega) u
  rw [hz1, Nat.mul_one, show madeCells (Value.int .i64 0).cells 4 = #[.int .i64 0, .int .i64 0, .int .i64 0, .int .i64 0] from by kernel_rfl] at h
  exact h
theorem zeros_oi {w : World} {g base : Nat} (h : Blk w g 3 #[.int .i64 0, .int .i64 0, .int .i64 0, .int .i64 0]) (hb : base ≤ g) : OI w 3 base (some ⟨g, 0, none⟩) [0, 0, 0, 0] :=
  .inr ⟨g, _, rfl, hb, h, by simp, fun i hi => match i, hi with | 0, _ => rfl | 1, _ => rfl | 2, _ => rfl | 3, _ => rfl⟩
set_option maxHeartbeats 800000 in
theorem specNew_any (w : World) : Calls Tryd.prog 99 #[] w (SG0 [0, 0, 0, 0] 0 w) := by
  have hmk := mk4
  have kx := Blk.new (w.alloc (.cells #[.slice (some ⟨w.heap.size + 1, 0, none⟩) 4 4, .int .i64 0] 46)) 3 #[.int .i64 0, .int .i64 0, .int .i64 0, .int .i64 0]
  simp only [World.size_alloc] at kx
  have hB := up_ (up_ (Below.refl w.heap.size w) (.cells #[.slice (some ⟨w.heap.size + 1, 0, none⟩) 4 4, .int .i64 0] 46)) (.cells #[.int .i64 0, .int .i64 0, .int .i64 0, .int .i64 0] 3)
  go_enter Tryd.func99, Tryd.ntmps99
  go_wp2
  refine bodyPost_ret (v := .agg #[.slice (some ⟨w.heap.size + 1, 0, none⟩) 4 4, .int .i64 0]) (by simp [results, Tryd.results99, go_sem]) rfl ⟨_, _, rfl, by simp, ?_, ?_⟩
  · exact zeros_oi kx (by omega)
  · exact hB
set_option maxHeartbeats 800000 in
theorem implNew_any (w : World) : Calls Tryd.prog 63 #[] w (SG0 [0, 0, 0, 0] 0 w) := by
  have hmk := mk4
  have kx := Blk.new (w.alloc (.cells #[.slice (some ⟨w.heap.size + 1, 0, none⟩) 4 4, .int .i64 0] 46)) 3 #[.int .i64 0, .int .i64 0, .int .i64 0, .int .i64 0]
  simp only [World.size_alloc] at kx
  have hB := up_ (up_ (Below.refl w.heap.size w) (.cells #[.slice (some ⟨w.heap.size + 1, 0, none⟩) 4 4, .int .i64 0] 46)) (.cells #[.int .i64 0, .int .i64 0, .int .i64 0, .int .i64 0] 3)
  go_enter Tryd.func63, Tryd.ntmps63
  go_wp2
  refine bodyPost_ret (v := .agg #[.slice (some ⟨w.heap.size + 1, 0, none⟩) 4 4, .int .i64 0]) (by simp [results, Tryd.results63, go_sem]) rfl ⟨_, _, rfl, by simp, ?_, ?_⟩
  · exact zeros_oi kx (by omega)
  · exact hB
end Go.Proofs.YtbogagddjkghhaaDoor.V
