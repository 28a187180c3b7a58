/-
  Closed facts on the seat's program that every statement's own form asks, found without spelling the program's head sign by sign in the kernel. No statement is proved here.
-/
import Derived.Test.YtfdfjmibjnmhpaaRows
import Derived.ProofKit
import Derived.JoinedOf
import Derived.WalkKit
set_option maxRecDepth 100000
namespace Go.Proofs.Ytfdfjmibjnmhpaa.D
open Go.RowKit Go.ChangeShapes Go.WideShapes
theorem toList_of {s : String} {l : List Char} (h : s = String.ofList l) : s.toList = l := by rw [h, String.toList_ofList]
def Door (P : Program) : Prop := ∃ c r, behindMainWord (wordsSigns P.initOrder.toList) = c :: r ∧ (c == "cut".toList) = true ∧ (c == "gc".toList || c == "spec".toList) = false ∧ (c == "carried".toList) = false ∧
    (stripLifts liftWords (c :: r)).1 = [] ∧ ((stripLifts liftWords (c :: r)).2.head? == some "cut".toList) = true
theorem door : Door Try.prog := by
  unfold Door
  rw [toList_of (s := Try.prog.initOrder) rfl]
  refine ⟨_, _, rfl, ?_, ?_, ?_, ?_, ?_⟩ <;> kernel_rfl
theorem make_of {P : Program} (h : Door P) : P.make = some .cut := by
  obtain ⟨c, r, h1, h2, h3, h4, h5, h6⟩ := h
  unfold Program.make
  rw [h1]
  dsimp only
  rw [if_neg (by rw [h3]; exact Bool.false_ne_true), if_pos (by rw [h2]; rfl)]
theorem enter_of {P : Program} (h : Door P) (l1 : P.laysLater = false) (l2 : P.bearsReflect = false) (l3 : P.doorFits [] = true) : P.mayEnter = true := by
  obtain ⟨c, r, h1, h2, h3, h4, h5, h6⟩ := h
  unfold Program.mayEnter
  rw [h1]
  dsimp only
  rw [h3, h4, h5, h6, l1, l2, l3]
  rfl
theorem lifts_of {P : Program} (h : Door P) : P.headLifts = [] := by
  obtain ⟨c, r, h1, h2, h3, h4, h5, h6⟩ := h
  unfold Program.headLifts
  rw [h1]
  simp [h5]
theorem final_of {P : Program} (h : Door P) : P.liftsFinal = false := by
  have hl := lifts_of h
  obtain ⟨c, r, h1, h2, h3, h4, h5, h6⟩ := h
  unfold Program.liftsFinal
  rw [h1, hl]
  simp at h4
  simp [h4]
theorem make_is : Try.prog.make = some .cut := make_of door
theorem enter_is : Try.prog.mayEnter = true := enter_of door (by kernel_rfl) (by kernel_rfl) (by kernel_rfl)
theorem final_is : Try.prog.liftsFinal = false := final_of door
theorem own : ownKnob Try.prog.godebug = none := by kernel_rfl
theorem laidOut : laidOutB Try.prog = true := by kernel_rfl
end Go.Proofs.Ytfdfjmibjnmhpaa.D
