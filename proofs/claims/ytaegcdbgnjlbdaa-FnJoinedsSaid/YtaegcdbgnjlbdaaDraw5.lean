/-
  The model's draws of tallies beside numbers. No statement is proved here.
-/
import Derived.Test.YtaegcdbgnjlbdaaDraw4
set_option linter.unusedVariables false
set_option maxRecDepth 100000
namespace Go.Proofs.Ytaegcdbgnjlbdaa.V
open Go.RowKit Go.Proofs.Ytaegcdbgnjlbdaa.B

def DW (w : World) (e : Ending) (w' : World) : Prop :=
  ∃ B d us, ∃ x y : Int, e = .returned (.tuple #[.agg #[.slice B us.length d], .int .i64 x, .int .i64 y]) ∧ us.length ≤ 15 ∧ Rd3 w' w'.heap.size B us ∧ 0 ≤ x ∧ x < 4 ∧ 0 ≤ y ∧ y < 6 ∧ Below w.heap.size w w'
/-- The drawn tally, stored into the box of the answer. -/
theorem one_end {w W0 W : World} {p b1 d : Nat} {B : Option Addr} {us : List B3} (hs0 : W0.heap.size = w.heap.size + 1) (hB0 : Below w.heap.size w W0) (kT0 : Blk W0 w.heap.size 44 #[.slice none 0 0]) (h : DS W0 p b1 B us W) (hb1 : W0.heap.size ≤ b1) :
    Blk (W.setCell ⟨w.heap.size, 0, none⟩ (.slice B us.length d)) w.heap.size 44 #[.slice B us.length d] ∧ Rd3 (W.setCell ⟨w.heap.size, 0, none⟩ (.slice B us.length d)) (W.setCell ⟨w.heap.size, 0, none⟩ (.slice B us.length d)).heap.size B us ∧ Below w.heap.size w (W.setCell ⟨w.heap.size, 0, none⟩ (.slice B us.length d)) := by
  have kT := kT0.below h.be (by omega)
  have o1 := h.2.1.set_ (p := ⟨w.heap.size, 0, none⟩) (by show w.heap.size < b1; omega) (.slice B us.length d)
  have hB : Below w.heap.size w W := hB0.trans (h.be.mono hB0.size)
  exact ⟨kT.set_ 0 _, o1.rd, Below.setCell hB (Nat.le_refl _) _⟩
end Go.Proofs.Ytaegcdbgnjlbdaa.V
