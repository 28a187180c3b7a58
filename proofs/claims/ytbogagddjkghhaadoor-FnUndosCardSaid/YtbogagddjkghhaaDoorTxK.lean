/-
  Rows of bytes told by their cells, carried over allocations and marks; empty rows. No statement is proved here.
-/
import Derived.Test.YtbogagddjkghhaaDoorCmdT
set_option linter.unusedVariables false
set_option maxRecDepth 100000
namespace Go.Proofs.YtbogagddjkghhaaDoor.V
open Go.RowKit Go.Proofs.YtbogagddjkghhaaDoor.B
theorem Rd8.up {w : World} {A : Option Addr} {bs : List Int} (h : Rd8 w A bs) (O : Obj) : Rd8 (w.alloc O) A bs := h.on ((Below.refl _ _).alloc (Nat.le_refl _) O)
theorem Rd8.keep {w w' : World} {A : Option Addr} {bs : List Int} {row : Option Nat} (h : Rd8 w A bs) (hgr : w.grownBy w' row) (hne : ∀ g', A = some ⟨g', 0, none⟩ → row ≠ some g') : Rd8 w' A bs := fun h0 => by
  obtain ⟨g, e, hlt, hc⟩ := h h0
  exact ⟨g, e, by have := hgr.size; omega, fun j hj => (World.cell?_of_block (a := ⟨g, j, none⟩) (hgr.block g hlt (fun e' => hne g e e'.symm))).trans (hc j hj)⟩
theorem CRow.up {w : World} {g cap n : Nat} {cs : List Value} (h : CRow w g cap n cs) (O : Obj) : CRow (w.alloc O) g cap n cs := h.on ((Below.refl _ _).alloc (Nat.le_refl _) O)
theorem Blk.keep {w w' : World} {g : Nat} {t : TypeId} {cs : Array Value} {row : Option Nat} (h : Blk w g t cs) (hgr : w.grownBy w' row) (hne : row ≠ some g) : Blk w' g t cs := (hgr.block g h.lt (fun e => hne e.symm)).trans h
theorem markNil (A : Option Addr) (c : Nat) (k : Int) (w : World) : Calls Tryd.prog 32 #[.slice A 0 c, .int .i64 k] w fun e w' => e = .returned (.int .i64 k) ∧ w' = w := by
  go_enter Tryd.func32, Tryd.ntmps32
  go_wp2
  refine wp_loop_rounds 1 ?_
  rw [rounds_succ]
  go_wp2
  go_ret
  exact ⟨rfl, rfl⟩
theorem heldNil (A : Option Addr) (c : Nat) (k : Int) (w : World) : Calls Tryd.prog 33 #[.slice A 0 c, .int .i64 k] w fun e w' => e = .returned (.int .i64 k) ∧ w' = w := by
  go_enter Tryd.func33, Tryd.ntmps33
  go_wp2
  refine wp_loop_rounds 1 ?_
  rw [rounds_succ]
  go_wp2
  go_ret
  exact ⟨rfl, rfl⟩
end Go.Proofs.YtbogagddjkghhaaDoor.V
