/-
  What the helpers of the laws do with votes: contracts of toVote, eqVote and szVoteS. No statement is proved here.
-/
import Derived.Test.YtaegcdbgnjlbdaaChecked
import Derived.Test.YtaegcdbgnjlbdaaBase
import Derived.StillTailTactics
set_option linter.unusedVariables false
set_option maxRecDepth 100000
namespace Go.Proofs.Ytaegcdbgnjlbdaa.V
open Go.RowKit Go.Proofs.Ytaegcdbgnjlbdaa.B

theorem ret_bool {a b : Bool} (h : a = b) : Ending.returned (.bool a) = .returned (.bool b) := by rw [h]

theorem infoV : (Try.prog.info? 24).map (fun i => (i.zero, i.size, i.bytes)) = some (some (.agg #[.int .i64 0, .int .i64 0]), 2, 16) := by kernel_rfl

theorem Rd.at_ {w : World} {Bd : Nat} {A : Option Addr} {vs : List (Int × Int)} (h : Rd w Bd A vs) {k : Nat} (hk : k < vs.length) :
    ∃ b off, A = some ⟨b, off, none⟩ ∧ b < Bd ∧ w.cell? ⟨b, off + k * 2, none⟩ = some (.int .i64 (vs.getD k (0, 0)).1) ∧ w.cell? ⟨b, off + k * 2 + 1, none⟩ = some (.int .i64 (vs.getD k (0, 0)).2) := by
  obtain ⟨b, off, rfl, hb, hc⟩ := h (by omega)
  exact ⟨b, off, rfl, hb, hc k hk⟩

end Go.Proofs.Ytaegcdbgnjlbdaa.V
