/-
  A row of numbers of the call's own beside marks; marks of a tally. No statement is proved here.
-/
import Derived.Test.YtfdfjmibjnmhpaaInts
import Derived.Test.YtfdfjmibjnmhpaaTallyOpen
set_option linter.unusedVariables false
set_option maxRecDepth 100000
namespace Go.Proofs.Ytfdfjmibjnmhpaa.B
open Go.RowKit
theorem OI.up {w : World} {t base : Nat} {A : Option Addr} {xs : List Int} (h : OI w t base A xs) (O : Obj) : OI (w.alloc O) t base A xs := h.on ((Below.refl _ _).alloc (Nat.le_refl _) O)
theorem OI.lt {w : World} {t base : Nat} {A : Option Addr} {xs : List Int} (h : OI w t base A xs) : ∀ g, A = some ⟨g, 0, none⟩ → g < w.heap.size := by
  intro g' e
  rcases h with ⟨rfl, rfl⟩ | ⟨g, cur, rfl, _, hk, _⟩
  · cases e
  · injection e with e
    injection e with e
    subst e
    exact hk.lt
theorem OI.ge {w : World} {t base : Nat} {A : Option Addr} {xs : List Int} (h : OI w t base A xs) : ∀ g, A = some ⟨g, 0, none⟩ → base ≤ g := by
  intro g' e
  rcases h with ⟨rfl, rfl⟩ | ⟨g, cur, rfl, hg, _, _⟩
  · cases e
  · injection e with e
    injection e with e
    subst e
    exact hg
theorem OI.keep {w w' : World} {t base : Nat} {A : Option Addr} {xs : List Int} {row : Option Nat} (h : OI w t base A xs) (hgr : w.grownBy w' row) (hne : ∀ g', A = some ⟨g', 0, none⟩ → row ≠ some g') : OI w' t base A xs := by
  rcases h with ⟨rfl, rfl⟩ | ⟨g', cur, rfl, hb, hk, hp⟩
  · exact OI.nil_
  · exact .inr ⟨g', cur, rfl, hb, (hgr.block g' hk.lt (fun e => hne g' rfl e.symm)).trans hk, hp⟩
theorem OI.low {w w' : World} {t base Bd : Nat} {A : Option Addr} {xs : List Int} (h : OI w t base A xs) (hb : Below Bd w w') (hl : ∀ g', A = some ⟨g', 0, none⟩ → g' < Bd) : OI w' t base A xs := by
  rcases h with ⟨rfl, rfl⟩ | ⟨g, cur, rfl, hg, hk, hp⟩
  · exact OI.nil_
  · exact .inr ⟨g, cur, rfl, hg, hk.below hb (hl g rfl), hp⟩
theorem keepK {w w' : World} {g : Nat} {t : TypeId} {cs : Array Value} {row : Option Nat} (h : Blk w g t cs) (hgr : w.grownBy w' row) (hne : row ≠ some g) : Blk w' g t cs := (hgr.block g h.lt (fun e => hne e.symm)).trans h
theorem keepL {w w' : World} {base : Nat} {row : Option Nat} (hgr : w.grownBy w' row) (hg : ∀ g, row = some g → base ≤ g) (hw : base ≤ w.heap.size) : Below base w w' :=
  ⟨hgr.os, hgr.tape, hgr.output, hgr.size, fun i hi => hgr.block i (by omega) (fun e => by have := hg i e.symm; omega)⟩
end Go.Proofs.Ytfdfjmibjnmhpaa.B
namespace Go.Proofs.Ytfdfjmibjnmhpaa.V
open Go.RowKit Go.Proofs.Ytfdfjmibjnmhpaa.B
/-- Numbers of the call's own, as the laws read them. -/
def NRes2 (xs : List Int) (w : World) (e : Ending) (w' : World) : Prop :=
  ∃ A d, e = .returned (.slice A xs.length d) ∧ OI w' 3 w.heap.size A xs ∧ Below w.heap.size w w'
theorem nres_of {xs : List Int} {w : World} {e : Ending} {w' : World} (h : NRes xs w e w') : NRes2 xs w e w' := by
  obtain ⟨v, rfl, ho, hb⟩ := h
  obtain ⟨A, c, rfl⟩ : ∃ A c, v = .slice A xs.length c := by
    obtain ⟨_, ⟨rfl, h0⟩ | ⟨g, cap, cur, rfl, _⟩⟩ := ho
    · exact ⟨none, 0, by rw [h0]⟩
    · exact ⟨_, _, rfl⟩
  exact ⟨A, c, rfl, (OI.of_own ho).2, hb⟩
theorem markTally_any (k : Int) (g n c : Nat) (t : TypeId) (cs : Array Value) (w : World) (hb : Blk w g t cs) (hs : n * 3 ≤ cs.size) (hn : n ≤ 1048576) (h0 : 0 ≤ k) (h1 : k ≤ 16777216) :
    Calls Try.prog 52 #[.agg #[.slice (some ⟨g, 0, none⟩) n c], .int .i64 k] w fun e w' =>
      e = .returned (.int .i64 (k + 3 * n)) ∧ ∃ cs', Blk w' g t cs' ∧ cs'.size = cs.size ∧ MK3 cs' k n ∧ w.grownBy w' (some g) := by
  have hm0 := fun O => markB3_any g n c t cs k (w.alloc O) (hb.alloc O) hs hn h0 h1
  have HM := Lib.hid hm0; clear hm0 hs
  go_enter Try.func52, Try.ntmps52
  go_wp2_with (go_at_call 93; refine (HM.out _).mono ?_; rintro e w1 ⟨rfl, ds, hd, hsz, hmk, hgr⟩; have HZ := Lib.hid hsz; clear hsz; have HK := Lib.hid hmk; clear hmk)
  go_ret
  exact ⟨rfl, ds, hd, HZ.out, HK.out, grown_alloc3 hgr⟩
end Go.Proofs.Ytfdfjmibjnmhpaa.V
