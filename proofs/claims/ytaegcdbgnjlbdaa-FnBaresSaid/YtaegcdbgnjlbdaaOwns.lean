/-
  Rows of bytes and blocks kept behind a mark that is laid on another block. No statement is proved here.
-/
import Derived.Test.YtaegcdbgnjlbdaaBytes
import Derived.Test.YtaegcdbgnjlbdaaMarks
set_option linter.unusedVariables false
set_option maxRecDepth 100000
namespace Go.Proofs.Ytaegcdbgnjlbdaa.B
open Go.RowKit

theorem OB.up {w : World} {t base : Nat} {A : Option Addr} {xs : List Int} (h : OB w t base A xs) (O : Obj) : OB (w.alloc O) t base A xs := h.on ((Below.refl _ _).alloc (Nat.le_refl _) O)
theorem OB.lt {w : World} {t base : Nat} {A : Option Addr} {xs : List Int} (h : OB w t base A xs) : ∀ g, A = some ⟨g, 0, none⟩ → g < w.heap.size := by
  intro g hA
  rcases h with ⟨rfl, _⟩ | ⟨g', cur, rfl, _, hk, _⟩
  · cases hA
  · injection hA with hA
    injection hA with hA
    subst hA
    exact hk.lt
theorem OB.ge {w : World} {t base : Nat} {A : Option Addr} {xs : List Int} (h : OB w t base A xs) : ∀ g, A = some ⟨g, 0, none⟩ → base ≤ g := by
  intro g hA
  rcases h with ⟨rfl, _⟩ | ⟨g', cur, rfl, hb, hk, _⟩
  · cases hA
  · injection hA with hA
    injection hA with hA
    subst hA
    exact hb
theorem OB.far {w w' : World} {t base g : Nat} {A : Option Addr} {xs : List Int} (h : OB w t base A xs) (hgr : w.grownBy w' (some g)) (hne : ∀ g', A = some ⟨g', 0, none⟩ → g' ≠ g) : OB w' t base A xs := by
  rcases h with ⟨rfl, rfl⟩ | ⟨g', cur, rfl, hb, hk, hp⟩
  · exact OB.nil_
  · refine .inr ⟨g', cur, rfl, hb, ?_, hp⟩
    exact (hgr.block g' hk.lt (by have := hne g' rfl; simpa using this)).trans hk
theorem OB.low {w w' : World} {t base Bd : Nat} {A : Option Addr} {xs : List Int} (h : OB w t base A xs) (hb : Below Bd w w') (hl : ∀ g', A = some ⟨g', 0, none⟩ → g' < Bd) : OB w' t base A xs := by
  rcases h with ⟨rfl, rfl⟩ | ⟨g', cur, rfl, hb', hk, hp⟩
  · exact OB.nil_
  · exact .inr ⟨g', cur, rfl, hb', (hb.block g' (hl g' rfl)).trans hk, hp⟩
theorem Blk.farm {w w' : World} {g g' : Nat} {t : TypeId} {cs : Array Value} (h : Blk w g' t cs) (hgr : w.grownBy w' (some g)) (hne : g' ≠ g) : Blk w' g' t cs := (hgr.block g' h.lt (by simpa using hne)).trans h
theorem below_grown {w w' : World} {g base : Nat} (h : w.grownBy w' (some g)) (hg : base ≤ g) (hw : base ≤ w.heap.size) : Below base w w' :=
  ⟨h.os, h.tape, h.output, h.size, fun i hi => h.block i (by omega) (by simp; omega)⟩
end Go.Proofs.Ytaegcdbgnjlbdaa.B
