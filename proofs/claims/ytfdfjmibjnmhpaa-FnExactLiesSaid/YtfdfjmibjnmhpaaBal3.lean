/-
  Plain facts on blocks and frames: what Bal2 holds of them, without the tallies. No statement is proved here.
-/
import Derived.Test.YtfdfjmibjnmhpaaReads
set_option linter.unusedVariables false
namespace Go.Proofs.Ytfdfjmibjnmhpaa.B
open Go.RowKit
theorem Blk.on {w w' : World} {g : Nat} {t : TypeId} {cs : Array Value} (h : Blk w g t cs) (hb : Below w.heap.size w w') : Blk w' g t cs := h.below hb h.lt
theorem Blk.rule {w : World} {g : Nat} {t : TypeId} {cs : Array Value} (h : Blk w g t cs) : ∀ i, w.cell? ⟨g, i, none⟩ = cs[i]? := fun i => h.cell i
theorem Blk.up {w : World} {b : Nat} {t : TypeId} {cs : Array Value} (h : Blk w b t cs) (O : Obj) : Blk (w.alloc O) b t cs := h.alloc O
theorem Blk.dr {w : World} {b : Nat} {t : TypeId} {cs : Array Value} (h : Blk w b t cs) : Blk w.drew b t cs := h
theorem on_ {w w1 w2 : World} (h : Below w.heap.size w w1) (hb : Below w1.heap.size w1 w2) : Below w.heap.size w w2 := h.trans (hb.mono h.size)
theorem up_ {w w1 : World} (h : Below w.heap.size w w1) (O : Obj) : Below w.heap.size w (w1.alloc O) := h.alloc h.size O
theorem Rd.on {w w' : World} {A : Option Addr} {vs : List (Int × Int)} (h : Rd w w.heap.size A vs) (hb : Below w.heap.size w w') : Rd w' w'.heap.size A vs := (h.below hb).more hb.size
theorem Rd.up {w : World} {A : Option Addr} {vs : List (Int × Int)} (h : Rd w w.heap.size A vs) (O : Obj) : Rd (w.alloc O) (w.alloc O).heap.size A vs := (h.alloc (Nat.le_refl _) O).more (by simp)
/-- Only block g, and what is new, may have turned. -/
theorem only_set {a w : World} {g : Nat} (h : a.grownBy w (some g)) (i : Nat) (u : Value) : a.grownBy (w.setCell ⟨g, i, none⟩ u) (some g) :=
  ⟨h.os, h.tape, h.output, by simpa [World.setCell] using h.size, fun j hj hne => (Below.heap_setCell w ⟨g, i, none⟩ u j (by
    rintro rfl
    exact hne rfl)).trans (h.block j hj hne)⟩
end Go.Proofs.Ytfdfjmibjnmhpaa.B
