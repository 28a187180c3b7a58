/-
  TallyAdd and Joined of the model: contracts. No statement is proved here.
-/
import Derived.Test.YtfebeafonifpdaaOwnT
import Derived.Deep.AppendLies
set_option linter.unusedVariables false
set_option maxRecDepth 100000
namespace Go.Proofs.Ytfebeafonifpdaa.V
open Go.RowKit Go.Proofs.Ytfebeafonifpdaa.B

theorem infoB4 : (Try.prog.info? 54).map (fun i => (i.zero, i.size, i.bytes)) = some (some (.agg #[.int .i64 0, .int .i64 0, .int .i64 0]), 3, 24) := by kernel_rfl
/-- A tally of the call's own. -/
def TRes (us : List B3) (w : World) (e : Ending) (w' : World) : Prop :=
  ∃ B d, e = .returned (.agg #[.slice B us.length d]) ∧ OT w' 54 w.heap.size B us ∧ Below w.heap.size w w' ∧ us.length ≤ d
theorem form3 {w : World} {base e size n : Nat} {v : Value} {xs : List Value} (h : w.ownsRow base e size v n xs) : ∃ A c, v = .slice A n c := by
  obtain ⟨_, ⟨rfl, rfl⟩ | ⟨g, cap, cur, rfl, _⟩⟩ := h
  · exact ⟨_, _, rfl⟩
  · exact ⟨_, _, rfl⟩
theorem cap_of {w : World} {b e size n d : Nat} {A : Option Addr} {xs : List Value} (h : w.ownsRow b e size (.slice A n d) n xs) : n ≤ d := by
  obtain ⟨_, ⟨h1, h2⟩ | ⟨g, cap, cur, h1, _, _, h4, _⟩⟩ := h
  · omega
  · injection h1 with _ _ h1
    omega
theorem own_empty (w : World) (t : TypeId) : (w.alloc (.cells #[] t)).ownsRow w.heap.size t 3 (.slice (some ⟨w.heap.size, 0, none⟩) 0 0) 0 [] :=
  ⟨rfl, .inr ⟨w.heap.size, 0, #[], rfl, Nat.le_refl _, heap_alloc_new w _, Nat.le_refl _, by decide, rfl, rfl⟩⟩

def insT (vs : List B3) (k : Nat) (u : B3) : List B3 := vs.take k ++ u :: vs.drop k
/-- The place of a ballot: all before it are less. -/
def Pl (vs : List B3) (u : B3) (k : Nat) : Prop := k ≤ vs.length ∧ (∀ j, j < k → cmp3 (vs.getD j z3) u < 0) ∧ (k < vs.length → ¬ cmp3 (vs.getD k z3) u < 0)
/-- The ballot is there already. -/
def hasB (vs : List B3) (u : B3) (k : Nat) : Bool := decide (k < vs.length) && decide (cmp3 (vs.getD k z3) u = 0)
/-- What is added to: a tally that reads. -/
def ARes (us : List B3) (q : Bool) (w : World) (e : Ending) (w' : World) : Prop :=
  ∃ B d, e = .returned (.tuple #[.agg #[.slice B us.length d], .bool q]) ∧ us.length ≤ d ∧ Rd3 w' w'.heap.size B us ∧ Below w.heap.size w w'

end Go.Proofs.Ytfebeafonifpdaa.V
