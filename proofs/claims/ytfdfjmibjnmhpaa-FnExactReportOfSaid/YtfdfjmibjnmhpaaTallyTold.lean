/-
  Told of the model, and the two loops that look for a ballot: contracts. No statement is proved here.
-/
import Derived.Test.YtfdfjmibjnmhpaaTallyGet
set_option linter.unusedVariables false
set_option maxRecDepth 100000
namespace Go.Proofs.Ytfdfjmibjnmhpaa.V
open Go.RowKit Go.Proofs.Ytfdfjmibjnmhpaa.B

def foundV (vs : List B3) (view who : Int) : Int := ((vs.find? (isOf view who)).map (·.2.2)).getD 0
def foundQ (vs : List B3) (view who : Int) : Bool := (vs.find? (isOf view who)).isSome
theorem ret_two {a b : Int} {p q : Bool} (h : a = b) (h2 : p = q) : Ending.returned (.tuple #[.int .i64 a, .bool p]) = .returned (.tuple #[.int .i64 b, .bool q]) := by rw [h, h2]

end Go.Proofs.Ytfdfjmibjnmhpaa.V
