/-
  Small steps for the walks of laws: a box and a list kept over a call. No statement is proved here.
-/
import Derived.Test.YtfbiblomblcheabLiftMsg
import Derived.Test.YtfbiblomblcheabMsg
import Derived.StillTailTactics
set_option linter.unusedVariables false
set_option maxRecDepth 100000
namespace Go.Proofs.Ytfbiblomblcheab.B
open Go.RowKit

theorem Blk.rule {w : World} {g : Nat} {t : TypeId} {cs : Array Value} (h : Blk w g t cs) : ∀ i, w.cell? ⟨g, i, none⟩ = cs[i]? := fun i => h.cell i
theorem Blk.on {w w' : World} {g : Nat} {t : TypeId} {cs : Array Value} (h : Blk w g t cs) (hb : Below w.heap.size w w') : Blk w' g t cs := h.below hb h.lt
theorem Rd.on {w w' : World} {A : Option Addr} {vs : List (Int × Int)} (h : Rd w w.heap.size A vs) (hb : Below w.heap.size w w') : Rd w' w'.heap.size A vs := (h.below hb).more hb.size
theorem Rd.up {w : World} {A : Option Addr} {vs : List (Int × Int)} (h : Rd w w.heap.size A vs) (O : Obj) : Rd (w.alloc O) (w.alloc O).heap.size A vs := (h.alloc (Nat.le_refl _) O).more (by simp)
theorem Rd.dr {w : World} {A : Option Addr} {vs : List (Int × Int)} (h : Rd w w.heap.size A vs) : Rd w.drew w.drew.heap.size A vs := h
theorem on_ {w w1 w2 : World} (h : Below w.heap.size w w1) (hb : Below w1.heap.size w1 w2) : Below w.heap.size w w2 := h.trans (hb.mono h.size)
theorem up_ {w w1 : World} (h : Below w.heap.size w w1) (O : Obj) : Below w.heap.size w (w1.alloc O) := h.alloc h.size O
end Go.Proofs.Ytfbiblomblcheab.B
namespace Go.Proofs.Ytfbiblomblcheab.V
open Go.RowKit Go.Proofs.Ytfbiblomblcheab.B
theorem szMsg_big (k v x a b : Int) (A : Option Addr) (c : Nat) (vs : List (Int × Int)) (w : World) (hm : vs.length ≤ maxLen) (hn : (1048576 : Int) < vs.length) :
    Calls Try.prog 23 #[.agg #[.int .i64 k, .int .i64 v, .int .i64 x, .int .i64 a, .int .i64 b, .slice A vs.length c], .int .i64 1048576] w fun e w' => e = .returned (.int .i64 (-1)) ∧ Below w.heap.size w w' := by
  have := szMsg_any k v x a b A vs.length c 1048576 w hm (by omega) (by omega)
  rwa [if_pos (by omega)] at this
theorem szMsg_small (k v x a b : Int) (A : Option Addr) (c : Nat) (vs : List (Int × Int)) (w : World) (hn : vs.length ≤ 1048576) :
    Calls Try.prog 23 #[.agg #[.int .i64 k, .int .i64 v, .int .i64 x, .int .i64 a, .int .i64 b, .slice A vs.length c], .int .i64 1048576] w fun e w' => e = .returned (.int .i64 (1048576 - vs.length)) ∧ Below w.heap.size w w' := by
  have := szMsg_any k v x a b A vs.length c 1048576 w (by unfold maxLen; omega) (by omega) (by omega)
  rwa [if_neg (by omega)] at this
end Go.Proofs.Ytfbiblomblcheab.V
