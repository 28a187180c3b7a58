/-
  Small steps for the walks of laws: a box and a list kept over a call. No statement is proved here.
-/
import Derived.Test.YtaegcdbgnjlbdaaLiftMsg
import Derived.Test.YtaegcdbgnjlbdaaMsg
import Derived.StillTailTactics
set_option linter.unusedVariables false
set_option maxRecDepth 100000
namespace Go.Proofs.Ytaegcdbgnjlbdaa.B
open Go.RowKit

theorem Blk.rule {w : World} {g : Nat} {t : TypeId} {cs : Array Value} (h : Blk w g t cs) : ∀ i, w.cell? ⟨g, i, none⟩ = cs[i]? := fun i => h.cell i
theorem Blk.on {w w' : World} {g : Nat} {t : TypeId} {cs : Array Value} (h : Blk w g t cs) (hb : Below w.heap.size w w') : Blk w' g t cs := h.below hb h.lt
theorem Rd.on {w w' : World} {A : Option Addr} {vs : List (Int × Int)} (h : Rd w w.heap.size A vs) (hb : Below w.heap.size w w') : Rd w' w'.heap.size A vs := (h.below hb).more hb.size
theorem Rd.up {w : World} {A : Option Addr} {vs : List (Int × Int)} (h : Rd w w.heap.size A vs) (O : Obj) : Rd (w.alloc O) (w.alloc O).heap.size A vs := (h.alloc (Nat.le_refl _) O).more (by simp)
theorem Rd.dr {w : World} {A : Option Addr} {vs : List (Int × Int)} (h : Rd w w.heap.size A vs) : Rd w.drew w.drew.heap.size A vs := h
theorem on_ {w w1 w2 : World} (h : Below w.heap.size w w1) (hb : Below w1.heap.size w1 w2) : Below w.heap.size w w2 := h.trans (hb.mono h.size)
theorem up_ {w w1 : World} (h : Below w.heap.size w w1) (O : Obj) : Below w.heap.size w (w1.alloc O) := h.alloc h.size O
end Go.Proofs.Ytaegcdbgnjlbdaa.B
namespace Go.Proofs.Ytaegcdbgnjlbdaa.V
open Go.RowKit Go.Proofs.Ytaegcdbgnjlbdaa.B
end Go.Proofs.Ytaegcdbgnjlbdaa.V
