/-
  Which states of a replica are valid, as mathematics. No statement is proved here.
-/
import Derived.Test.YtfdfjmibjnmhpaaRq
import Derived.Test.YtfdfjmibjnmhpaaRepOk
import Derived.Test.YtfdfjmibjnmhpaaTallyOk
set_option linter.unusedVariables false
namespace Go.Proofs.Ytfdfjmibjnmhpaa.V
open Go.RowKit Go.Proofs.Ytfdfjmibjnmhpaa.B

def below4 (n : Int) (u : B3) : Bool := decide (u.1 < n)
def talB (n : Int) (vs : List B3) : Bool := vs.all (below4 n) && tallyOkB vs
def zero4 (u : B3) : Bool := decide (u.2.1 = 0)
def goodH (n : Int) (l : List (Int × List Rp)) (i : Nat) : Bool := repsOkB n (l.getD i (0, [])).1 (l.getD i (0, [])).2 && (decide (i = 0) || decide ((l.getD (i - 1) (0, [])).1 < (l.getD i (0, [])).1))
def heardB (n : Int) (l : List (Int × List Rp)) : Bool := (List.range l.length).all (goodH n l)
theorem heard_yes {n : Int} {l : List (Int × List Rp)} (h : ∀ j, j < l.length → goodH n l j = true) : heardB n l = true := by
  unfold heardB
  rw [List.all_eq_true]
  intro j hj
  exact h j (List.mem_range.1 hj)
theorem heard_no {n : Int} {l : List (Int × List Rp)} {k : Nat} (hk : k < l.length) (h : goodH n l k = false) : heardB n l = false := by
  unfold heardB
  rw [List.all_eq_false]
  exact ⟨k, List.mem_range.2 hk, by simp [h]⟩
/-- The numbers, then the votes and the lock. -/
def headQ (r : Rd4) : Bool := sizeB r.n && (decide (0 ≤ r.id) && (decide (r.id < r.n) && (valOkB r.own && (viewOkB r.view && (decide (1 ≤ r.left) && decide (r.left ≤ 3 + r.view))))))
def doneQ (x : Int) : Bool := decide (x = 0) || valOkB x
def talsQ (r : Rd4) : Bool := talB r.n r.pr && (talB r.n r.vo && (talB r.n r.re && talB r.n r.ds)) && r.ds.all zero4
def repQ (r : Rd4) : Bool := headQ r && (votesOkB r.voted (r.view + 1) && (doneQ r.dn && (lockOkB r.lv r.lx (r.view + 1) && (talsQ r && heardB r.n r.hs))))
theorem all_take_no {α : Type} (p : α → Bool) (l : List α) (z : α) (k : Nat) (h : k < l.length) (hp : p (l.getD k z) = false) : l.all p = false := by
  rw [List.all_eq_false]
  refine ⟨l.getD k z, ?_, by rw [hp]; exact Bool.false_ne_true⟩
  rw [List.getD_eq_getElem?_getD, List.getElem?_eq_getElem h]
  exact List.getElem_mem h
theorem all_of {α : Type} (p : α → Bool) (l : List α) (z : α) (h : ∀ k, k < l.length → p (l.getD k z) = true) : l.all p = true := by
  rw [List.all_eq_true]
  intro x hx
  obtain ⟨i, hi, rfl⟩ := List.getElem_of_mem hx
  have := h i hi
  rwa [List.getD_eq_getElem?_getD, List.getElem?_eq_getElem hi] at this
end Go.Proofs.Ytfdfjmibjnmhpaa.V
