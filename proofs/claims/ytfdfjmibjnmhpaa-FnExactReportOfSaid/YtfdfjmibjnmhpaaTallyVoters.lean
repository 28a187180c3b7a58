/-
  Voters, ViewsIn and Silent of the model: contracts. No statement is proved here.
-/
import Derived.Test.YtfdfjmibjnmhpaaTallyWin
import Derived.Deep.AppendLies
import Derived.Deep.RegionHeld3
set_option linter.unusedVariables false
set_option maxRecDepth 100000
namespace Go.Proofs.Ytfdfjmibjnmhpaa.V
open Go.RowKit Go.Proofs.Ytfdfjmibjnmhpaa.B

theorem infoI : (Try.prog.info? 3).map (fun i => (i.zero, i.size, i.bytes)) = some (some (.int .i64 0), 1, 8) := by kernel_rfl
def ic (xs : List Int) : List Value := xs.map (Value.int .i64)
theorem ic_len (xs : List Int) : (ic xs).length = xs.length := by simp [ic]
theorem ic_app (xs ys : List Int) : ic (xs ++ ys) = ic xs ++ ic ys := by simp [ic]
/-- The numbers of the call's own. -/
def NRes (xs : List Int) (w : World) (e : Ending) (w' : World) : Prop :=
  ∃ v, e = .returned v ∧ w'.ownsRow w.heap.size 3 1 v xs.length (ic xs) ∧ Below w.heap.size w w'
def votersL (vs : List B3) (view val : Int) : List Int := (vs.filter (isAt view val)).map (·.1)
def votersK (vs : List B3) (view val : Int) (k : Nat) : List Int := ((vs.take k).filter (isAt view val)).map (·.1)
theorem votersK_all (vs : List B3) (view val : Int) : votersK vs view val vs.length = votersL vs view val := by simp [votersK, votersL]
theorem votersK_step (vs : List B3) (view val : Int) (k : Nat) (h : k < vs.length) : votersK vs view val (k + 1) = votersK vs view val k ++ (if isAt view val (vs.getD k z3) then [(vs.getD k z3).1] else []) := by
  unfold votersK
  rw [take_get vs z3 k h, List.filter_append, List.map_append]
  congr 1
  rcases h1 : isAt view val (vs.getD k z3) with _ | _ <;> simp only [List.filter, h1] <;> rfl
theorem votersK_le (vs : List B3) (view val : Int) (k : Nat) : (votersK vs view val k).length ≤ k := by
  simp only [votersK, List.length_map]
  exact Nat.le_trans (List.length_filter_le _ _) (by simp; omega)
theorem own_app1 {w : World} {b e : Nat} {v : Value} {xs : List Int} {y : Int} (h : w.ownsRow b e 1 v (xs.length + 1) (ic xs ++ [.int .i64 y])) : w.ownsRow b e 1 v (xs ++ [y]).length (ic (xs ++ [y])) := by
  rw [ic_app, List.length_append]; exact h
theorem own_drew {w : World} {b e size n : Nat} {v : Value} {xs : List Value} (h : w.ownsRow b e size v n xs) : w.drew.ownsRow b e size v n xs := h
theorem reads_drew {w : World} {B size n : Nat} {A : Option Addr} {xs : List Value} (h : Reads w B size A n xs) : Reads w.drew B size A n xs := h
theorem own_lit (w : World) (u : Value) : (w.alloc (.cells #[u] 3)).ownsRow w.heap.size 3 1 (.slice (some ⟨w.heap.size, 0, none⟩) 1 1) 1 [u] :=
  ⟨rfl, .inr ⟨w.heap.size, 1, #[u], rfl, Nat.le_refl _, heap_alloc_new w _, Nat.le_refl _, by decide, rfl, rfl⟩⟩
theorem lit_int (w : World) (u : Value) : Reads (w.alloc (.cells #[u] 3)) (w.heap.size + 1) 1 (some ⟨w.heap.size, 0, none⟩) 1 [u] := by
  have h := Reads.of_own (own_lit w u)
  simpa using h
theorem own_more3 {w : World} {b b' e size n : Nat} {v : Value} {xs : List Value} (h : w.ownsRow b e size v n xs) (hb : b' ≤ b) : w.ownsRow b' e size v n xs := by
  obtain ⟨hl, h⟩ := h
  refine ⟨hl, ?_⟩
  rcases h with h1 | ⟨g, cap, cur, h1, h2, h3⟩
  · exact .inl h1
  · exact .inr ⟨g, cap, cur, h1, by omega, h3⟩

theorem no_ints (w w' : World) (hB : Below w.heap.size w w') : NRes [] w (.returned (.slice none 0 0)) w' := ⟨_, rfl, World.ownsRow_nil _ _ _ _, hB⟩
def votersR (vs : List B3) (view val : Int) : List Int := if tallyOkB vs then votersL vs view val else []
end Go.Proofs.Ytfdfjmibjnmhpaa.V
