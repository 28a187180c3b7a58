/-
  What the functions on reports answer, as plain functions on lists. No statement is proved here.
-/
import Derived.Test.YtfdfjmibjnmhpaaImplMsgOk
import Derived.Test.YtfdfjmibjnmhpaaSizes
import Derived.Test.YtfdfjmibjnmhpaaRep2
set_option linter.unusedVariables false
set_option maxRecDepth 100000
namespace Go.Proofs.Ytfdfjmibjnmhpaa.V
open Go.RowKit Go.Proofs.Ytfdfjmibjnmhpaa.B

def inB (n f : Int) : Bool := decide (0 ≤ f) && decide (f < n)
def repB (n view : Int) (r : Rp) : Bool := inB n r.f && msgOkB 3 view 0 r.v r.x r.vs
def goodR (n view : Int) (rs : List Rp) (i : Nat) : Bool := repB n view (rs.getD i zR) && (decide (i = 0) || decide ((rs.getD (i - 1) zR).f < (rs.getD i zR).f))
def allR (n view : Int) (rs : List Rp) : Bool := (List.range rs.length).all (goodR n view rs)
def viewR (view : Int) : Bool := decide (1 ≤ view ∧ view ≤ 9)
def repsOkB (n view : Int) (rs : List Rp) : Bool := allR n view rs && (sizeB n && viewR view)
theorem allR_yes {n view : Int} {rs : List Rp} (h : ∀ j, j < rs.length → goodR n view rs j = true) : allR n view rs = true := by
  unfold allR
  rw [List.all_eq_true]
  intro j hj
  exact h j (List.mem_range.1 hj)
theorem allR_no {n view : Int} {rs : List Rp} {k : Nat} (hk : k < rs.length) (h : goodR n view rs k = false) : allR n view rs = false := by
  unfold allR
  rw [List.all_eq_false]
  exact ⟨k, List.mem_range.2 hk, by simp [h]⟩

def hasV (val from_ : Int) (r : Rp) : Bool := r.vs.any fun p => decide (p.2 = val) && decide (from_ ≤ p.1)
def wit (rs : List Rp) (val from_ : Int) : Nat := rs.countP (hasV val from_)
/-- The greatest number below k at which ok holds, or -1. -/
def last (ok : Int → Bool) : Nat → Int
  | 0 => -1
  | k + 1 => if ok k then (k : Int) else last ok k
def groundR (n : Int) (rs : List Rp) (val : Int) (u : Int) : Bool := decide (weakR n ≤ (wit rs val u : Int))
def groundsR (n view : Int) (rs : List Rp) (val : Int) : Int := last (groundR n rs val) view.toNat
def freeL (r : Rp) : Bool := decide (r.x = 0)
def unbR (rs : List Rp) : Nat := rs.countP freeL
def freeR (n : Int) (rs : List Rp) : Bool := decide (strongR n ≤ (unbR rs : Int))
def supL (u val : Int) (r : Rp) : Bool := decide (r.x = 0) || (decide (0 ≤ u) && (decide (r.v < u) || decide (r.x = val)))
def supR (u val : Int) (rs : List Rp) : Nat := rs.countP (supL u val)
def safeR (n view : Int) (rs : List Rp) (val : Int) : Bool := freeR n rs || (decide (0 ≤ groundsR n view rs val) && decide (strongR n ≤ (supR (groundsR n view rs val) val rs : Int)))
/-- The best of the values 1 .. k and its grounds. -/
def best (g : Int → Int) (ok : Int → Bool) : Nat → Int × Int
  | 0 => (0, -1)
  | k + 1 => if (best g ok k).2 < g (k + 1 : Nat) && ok (k + 1 : Nat) then (((k + 1 : Nat) : Int), g (k + 1 : Nat)) else best g ok k
def chooseR (n view : Int) (rs : List Rp) (own : Int) : Int × Bool :=
  if freeR n rs then (own, true) else ((best (groundsR n view rs) (safeR n view rs) 60).1, decide (0 < (best (groundsR n view rs) (safeR n view rs) 60).1))

theorem last_lo (ok : Int → Bool) : ∀ k : Nat, -1 ≤ last ok k ∧ last ok k < k
  | 0 => by simp [last]
  | k + 1 => by
    have := last_lo ok k
    unfold last
    split <;> omega
theorem take_cnt {α : Type} (p : α → Bool) (l : List α) (z : α) (k : Nat) (h : k < l.length) : (l.take (k + 1)).countP p = (l.take k).countP p + (if p (l.getD k z) then 1 else 0) := by
  rw [take_getD l z k h, List.countP_append, List.countP_singleton]
theorem cnt_le {α : Type} (p : α → Bool) (l : List α) (k : Nat) : (l.take k).countP p ≤ k := Nat.le_trans List.countP_le_length (by rw [List.length_take]; omega)
theorem take_any {α : Type} (p : α → Bool) (l : List α) (z : α) (k : Nat) (h : k < l.length) : (l.take (k + 1)).any p = ((l.take k).any p || p (l.getD k z)) := by
  rw [take_getD l z k h, List.any_append]
  simp
end Go.Proofs.Ytfdfjmibjnmhpaa.V
