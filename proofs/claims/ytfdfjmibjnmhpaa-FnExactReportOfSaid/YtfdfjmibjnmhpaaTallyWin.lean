/-
  Winner of the model: its contract. No statement is proved here.
-/
import Derived.Test.YtfdfjmibjnmhpaaTallyTold
set_option linter.unusedVariables false
set_option maxRecDepth 100000
namespace Go.Proofs.Ytfdfjmibjnmhpaa.V
open Go.RowKit Go.Proofs.Ytfdfjmibjnmhpaa.B

/-- The first from k on, of m, at which f holds. -/
def winN (f : Nat → Bool) : Nat → Nat → Option Nat
  | _, 0 => none
  | k, m + 1 => if f k then some k else winN f (k + 1) m
theorem winN_none {f : Nat → Bool} : ∀ {m k : Nat}, (∀ j, k ≤ j → j < k + m → f j = false) → winN f k m = none
  | 0, _, _ => rfl
  | m + 1, k, h => by
    rw [winN, h k (Nat.le_refl _) (by omega)]
    exact winN_none fun j h1 h2 => h j (by omega) (by omega)
theorem winN_some {f : Nat → Bool} : ∀ {m k i : Nat}, k ≤ i → i < k + m → (∀ j, k ≤ j → j < i → f j = false) → f i = true → winN f k m = some i
  | 0, _, _, h1, h2, _, _ => by omega
  | m + 1, k, i, h1, h2, h, hi => by
    by_cases e : k = i
    · subst e
      rw [winN, hi]; rfl
    · rw [winN, h k (Nat.le_refl _) (by omega)]
      exact winN_some (by omega) (by omega) (fun j h3 h4 => h j (by omega) h4) hi
def enough (vs : List B3) (view need : Int) (k : Nat) : Bool := decide (need ≤ (cntB vs view (k : Int) : Int))
def winK (vs : List B3) (view need : Int) : Option Nat := winN (enough vs view need) 1 60
def winV (o : Option Nat) : Int := (o.map fun k => (k : Int)).getD 0

def winnerK (vs : List B3) (view need : Int) : Option Nat := if tallyOkB vs = true ∧ 1 ≤ need then winK vs view need else none
end Go.Proofs.Ytfdfjmibjnmhpaa.V
