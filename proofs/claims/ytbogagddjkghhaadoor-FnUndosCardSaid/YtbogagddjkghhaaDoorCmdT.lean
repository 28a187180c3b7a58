/-
  The model's words of a command: contract. No statement is proved here.
-/
import Derived.Test.YtbogagddjkghhaaDoorCmdTx
import Derived.Deep.RegionLaw
set_option linter.unusedVariables false
set_option maxRecDepth 100000
namespace Go.Proofs.YtbogagddjkghhaaDoor.V
open Go.RowKit Go.Proofs.YtbogagddjkghhaaDoor.B
def cmdW (k : Int) : List Int := if k = 0 then [103, 101, 116] else if k = 1 then [112, 117, 116] else [97, 100, 100]
def cmdT (k y n : Int) : List Int := cmdW k ++ [32, 48 + y] ++ (if k = 0 then [] else [32, 48 + n])
/-- A row of bytes of the call's own. -/
def TX (bs : List Int) (w : World) (e : Ending) (w' : World) : Prop :=
  ∃ g cap, e = .returned (.slice (some ⟨g, 0, none⟩) bs.length cap) ∧ w.heap.size ≤ g ∧ CRow w' g cap bs.length (u8s bs) ∧ Below w.heap.size w w'
theorem read1 (W : World) (u : Value) (g : Nat) (hg : W.heap.size = g) : Reads (W.alloc (.cells #[u] 5)) (g + 1) 1 (some ⟨g, 0, none⟩) 1 [u] := by
  subst hg
  have hb := Blk.new W 5 #[u]
  refine ⟨rfl, fun _ => ⟨_, rfl, Nat.lt_succ_self _, fun j v hv => ?_⟩⟩
  match j, hv with
  | 0, hv =>
    have hadd : (⟨W.heap.size, 0, none⟩ : Addr).add 0 = ⟨W.heap.size, 0, none⟩ := rfl
    rw [hadd, hb.cell]
    exact hv
theorem crow_dr {w : World} {g cap n : Nat} {cs : List Value} (h : CRow w g cap n cs) : CRow w.drew g cap n cs := h.on (Below.refl _ _).drew
theorem readK {W w8 : World} {a g : Nat} {u : Value} (hc : W.cell? ⟨a, 0, none⟩ = some u) (hl : a < W.heap.size) (hg : W.grownBy w8 (some g)) (hne : a ≠ g) : Reads w8 (a + 1) 1 (some ⟨a, 0, none⟩) 1 [u] := by
  refine ⟨rfl, fun _ => ⟨_, rfl, Nat.lt_succ_self _, fun j v hv => ?_⟩⟩
  match j, hv with
  | 0, hv =>
    have hadd : (⟨a, 0, none⟩ : Addr).add 0 = ⟨a, 0, none⟩ := rfl
    rw [hadd, World.cell?_of_block (a := ⟨a, 0, none⟩) (hg.block a hl (fun e => by injection e with e; exact hne e)), hc]
    exact hv
theorem growB {w w' w0 : World} {g : Nat} (h : w.grownBy w' (some g)) (hB : Below w0.heap.size w0 w) (hg : w0.heap.size ≤ g) : Below w0.heap.size w0 w' :=
  hB.trans ⟨h.os, h.tape, h.output, h.size, fun i hi => h.block i (by have := hB.size; omega) (fun e => by injection e with e; omega)⟩
end Go.Proofs.YtbogagddjkghhaaDoor.V
