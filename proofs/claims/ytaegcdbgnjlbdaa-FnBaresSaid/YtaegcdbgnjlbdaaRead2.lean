/-
  MsgRead of the model: what it answers, for whatever bytes.
-/
import Derived.Test.YtaegcdbgnjlbdaaRead1
import Derived.Test.YtaegcdbgnjlbdaaSpecWith
import Derived.Deep.AppendLies
import Derived.Deep.RegionHeld3
import Derived.Deep.CutRange
set_option linter.unusedVariables false
set_option maxRecDepth 100000
namespace Go.Proofs.Ytaegcdbgnjlbdaa.V
open Go.RowKit Go.ChangeShapes Go.WideShapes Go.Proofs.Ytaegcdbgnjlbdaa.B

/-- A message of the call's own, and whether there is one. -/
def GRes (k v x a b : Int) (q : Bool) (us : List (Int × Int)) (w : World) (e : Ending) (w' : World) : Prop :=
  ∃ B d, e = .returned (.tuple #[.agg #[.int .i64 k, .int .i64 v, .int .i64 x, .int .i64 a, .int .i64 b, .slice B us.length d], .bool q]) ∧ OV w' 24 w.heap.size B us ∧ Below w.heap.size w w'

def C6 (k v x a b : Int) (ov : Value) : Array Value := #[.int .i64 k, .int .i64 v, .int .i64 x, .int .i64 a, .int .i64 b, ov]
/-- The message that is being made: its box at block g, its row of votes, and what was there as it was. -/
structure Mk (w1 W : World) (g : Nat) (k v x a b : Int) (ov : Value) (m : Nat) (ys : List Value) : Prop where
  box : Blk W g 27 (C6 k v x a b ov)
  own : W.ownsRow (g + 1) 24 2 ov m ys
  bel : Below g w1 W
theorem Mk.on {w1 W W' : World} {g : Nat} {k v x a b : Int} {ov : Value} {m : Nat} {ys : List Value} (h : Mk w1 W g k v x a b ov m ys) (hb : Below W.heap.size W W') : Mk w1 W' g k v x a b ov m ys :=
  ⟨h.box.on hb, own_on h.own hb, h.bel.trans (hb.mono (Nat.le_of_lt h.box.lt))⟩
theorem Mk.other {w1 W W4 : World} {g : Nat} {k v x a b : Int} {ov : Value} {m : Nat} {ys : List Value} {O : Obj} (h : Mk w1 W g k v x a b ov m ys) (hgr : (W.alloc O).grownBy W4 ov.ownBlock) : Blk W4 g 27 (C6 k v x a b ov) :=
  (hgr.block _ (by have := h.box.lt; simp; omega) (fun e => by have := (h.own.lt _ e.symm).1; omega)).trans (h.box.alloc O)
theorem Mk.step {w1 W W4 : World} {g : Nat} {k v x a b : Int} {ov v1 : Value} {m j : Nat} {ys zs : List Value} {O : Obj} (h : Mk w1 W g k v x a b ov m ys) (hgr : (W.alloc O).grownBy W4 ov.ownBlock) (hown : W4.ownsRow (g + 1) 24 2 v1 j zs) :
    Mk w1 (W4.setCell ⟨g, 5, none⟩ v1) g k v x a b v1 j zs :=
  ⟨by have := (h.other hgr).set_ 5 v1; exact this, ownsRow_setCell_below hown (by simp) v1, ((h.bel.alloc (Nat.le_of_lt h.box.lt) O).grown hgr (by have := h.box.lt; simp; omega) (fun j hj => by have := (h.own.lt j hj).1; omega)).setCell (Nat.le_refl _) v1⟩

theorem form_of {w : World} {base e size n : Nat} {v : Value} {xs : List Value} (h : w.ownsRow base e size v n xs) : ∃ A c, v = .slice A n c := by
  obtain ⟨_, ⟨rfl, rfl⟩ | ⟨g, cap, cur, rfl, _⟩⟩ := h
  · exact ⟨_, _, rfl⟩
  · exact ⟨_, _, rfl⟩

end Go.Proofs.Ytaegcdbgnjlbdaa.V
