/-
  The laws of the store: what a call leaves, and a box for it. No statement is proved here.
-/
import Derived.Test.YtbogagddjkghhaaDoorStK
set_option linter.unusedVariables false
set_option maxRecDepth 100000
namespace Go.Proofs.YtbogagddjkghhaaDoor.B
theorem Blk.six {w : World} {b s : Nat} {t : TypeId} {cs : Array Value} (h : Blk w b t cs) (hne : b ≠ s) (u0 u1 : Value) : Blk ((w.setCell ⟨s, 0, none⟩ u0).setCell ⟨s, 1, none⟩ u1) b t cs := (h.far (by exact hne) _).far (by exact hne) _
end Go.Proofs.YtbogagddjkghhaaDoor.B
namespace Go.Proofs.YtbogagddjkghhaaDoor.V
open Go.RowKit Go.Proofs.YtbogagddjkghhaaDoor.B
/-- A store of the call's own, and a second answer. -/
def SG (us : List Int) (m : Int) (r : Value) (w : World) (e : Ending) (w' : World) : Prop :=
  ∃ A d, e = .returned (.tuple #[.agg #[.slice A us.length d, .int .i64 m], r]) ∧ OI w' 3 w.heap.size A us ∧ Below w.heap.size w w'
theorem keep_ {w w' : World} {g : Nat} {t : TypeId} {cs : Array Value} {row : Option Nat} (h : Blk w g t cs) (hgr : w.grownBy w' row) (hne : row ≠ some g) : Blk w' g t cs := (hgr.block g h.lt (fun e => hne e.symm)).trans h
theorem keepB {w w' : World} {base : Nat} {row : Option Nat} (hgr : w.grownBy w' row) (hg : ∀ g, row = some g → base ≤ g) (hw : base ≤ w.heap.size) : Below base w w' :=
  ⟨hgr.os, hgr.tape, hgr.output, hgr.size, fun i hi => hgr.block i (by omega) (fun e => by have := hg i e.symm; omega)⟩
def Made (w0 : World) (us : List Int) (m : Int) (r : Value) (s6 s7 : Value) (wx : World) : Prop :=
  ∃ s B d, s6 = .pointer (some ⟨s, 0, none⟩) ∧ s7 = r ∧ Blk wx s 46 #[.slice B us.length d, .int .i64 m] ∧ OI wx 3 w0.heap.size B us ∧ (∀ g, B = some ⟨g, 0, none⟩ → g ≠ s) ∧ w0.heap.size ≤ s ∧ Below w0.heap.size w0 wx
theorem made_late {w0 wd : World} {us : List Int} {m : Int} {r : Value} {B : Option Addr} {d base : Nat} (hB : Below w0.heap.size w0 wd) (ho : OI wd 3 base B us) (hb : w0.heap.size ≤ base) :
    Made w0 us m r (.pointer (some ⟨wd.heap.size, 0, none⟩)) r (wd.alloc (.cells #[.slice B us.length d, .int .i64 m] 46)) :=
  ⟨_, B, d, rfl, rfl, Blk.new _ _ _, (ho.up _).more hb, fun g e => by have := ho.lt g e; omega, hB.size, up_ hB _⟩
theorem made_early {w0 wd : World} {us : List Int} {m : Int} {r : Value} {B : Option Addr} {d base s : Nat} (hz : Blk wd s 46 #[.slice none 0 0, .int .i64 0]) (hs : w0.heap.size ≤ s) (hB : Below w0.heap.size w0 wd) (ho : OI wd 3 base B us) (hsb : s + 1 ≤ base) (hb : w0.heap.size ≤ base) :
    Made w0 us m r (.pointer (some ⟨s, 0, none⟩)) r ((wd.setCell ⟨s, 0, none⟩ (.slice B us.length d)).setCell ⟨s, 1, none⟩ (.int .i64 m)) :=
  ⟨s, B, d, rfl, rfl, (hz.set_ 0 _).set_ 1 _, OI.more (OI.set_ (OI.set_ ho (by show s < base; omega) _) (by show s < base; omega) _) hb, fun g e => by have := ho.ge g e; omega, hs, Below.setCell (Below.setCell hB (by show w0.heap.size ≤ s; omega) _) (by show w0.heap.size ≤ s; omega) _⟩
end Go.Proofs.YtbogagddjkghhaaDoor.V
