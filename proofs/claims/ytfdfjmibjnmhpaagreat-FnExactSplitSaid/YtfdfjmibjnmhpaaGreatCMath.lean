/-
  Which clusters are valid, as mathematics. No statement is proved here.
-/
import Derived.Test.YtfdfjmibjnmhpaaGreatKinds
import Derived.Test.YtfdfjmibjnmhpaaGreatQMath
set_option linter.unusedVariables false
namespace Go.Proofs.YtfdfjmibjnmhpaaGreat.V
open Go.RowKit Go.Proofs.YtfdfjmibjnmhpaaGreat.B

def liesN (l : List Bool) : Nat := l.countP id
def flagsB (n : Int) (l : List Bool) : Bool := decide ((l.length : Int) = n) && decide ((liesN l : Int) ≤ n / 3)
def zD : Rd4 := ⟨0, 0, 0, 0, 0, [], 0, 0, 0, [], [], [], [], []⟩
theorem zQ_dat : zQ.dat = zD := rfl
def goodP (n : Int) (rs : List Rd4) (i : Nat) : Bool := repQ (rs.getD i zD) && (decide ((rs.getD i zD).n = n) && decide ((rs.getD i zD).id = (i : Int)))
def repsB (n : Int) (rs : List Rd4) : Bool := (List.range rs.length).all (goodP n rs)
def msgD (m : Md) : Bool := msgOkB m.k m.v m.x m.a m.b m.vs
def linkB (n : Int) (i : Nat) (l : List Md) : Bool := decide (l.length ≤ 80) && (!(decide ((i : Int) / n = (i : Int) % n) && decide (0 < l.length)) && l.all msgD)
def netB (n : Int) (nt : List (List Md)) : Bool := (List.range nt.length).all fun i => linkB n i (nt.getD i [])
def lensC (d : Cd) : Bool := decide ((d.rs.length : Int) = d.n) && decide ((d.nt.length : Int) = d.n * d.n)
def cluB (d : Cd) : Bool := sizeB d.n && (flagsB d.n d.bad && (lensC d && (repsB d.n d.rs && netB d.n d.nt)))
theorem range_yes {f : Nat → Bool} {n : Nat} (h : ∀ j, j < n → f j = true) : (List.range n).all f = true := by
  rw [List.all_eq_true]
  intro j hj
  exact h j (List.mem_range.1 hj)
theorem range_no {f : Nat → Bool} {n k : Nat} (hk : k < n) (h : f k = false) : (List.range n).all f = false := by
  rw [List.all_eq_false]
  exact ⟨k, List.mem_range.2 hk, by simp [h]⟩
theorem lies_step (l : List Bool) (k : Nat) (h : k < l.length) : liesN (l.take (k + 1)) = liesN (l.take k) + (if l.getD k false then 1 else 0) := by
  unfold liesN
  rw [take_getD l false k h, List.countP_append]
  cases l.getD k false <;> rfl
theorem lies_le (l : List Bool) : liesN l ≤ l.length := List.countP_le_length
theorem dat_at (rs : List Rq) (i : Nat) : (rs.map Rq.dat).getD i zD = (rs.getD i zQ).dat := by
  simp only [List.getD_eq_getElem?_getD, List.getElem?_map]
  cases rs[i]? <;> rfl
theorem ldat_at (nt : List Lp) (i : Nat) : (nt.map Lp.dat).getD i [] = (nt.getD i zL).dat := by
  simp only [List.getD_eq_getElem?_getD, List.getElem?_map]
  cases nt[i]? <;> rfl
end Go.Proofs.YtfdfjmibjnmhpaaGreat.V
