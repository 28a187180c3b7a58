/-
  Count, Told and Winner of the model: contracts. No statement is proved here.
-/
import Derived.Test.YtfdfjmibjnmhpaaTallyOk
set_option linter.unusedVariables false
set_option maxRecDepth 100000
namespace Go.Proofs.Ytfdfjmibjnmhpaa.V
open Go.RowKit Go.Proofs.Ytfdfjmibjnmhpaa.B

def isAt (view val : Int) (u : B3) : Bool := decide (u.2.1 = view ∧ u.2.2 = val)
def cntK (vs : List B3) (view val : Int) (k : Nat) : Nat := ((vs.take k).filter (isAt view val)).length
def cntB (vs : List B3) (view val : Int) : Nat := (vs.filter (isAt view val)).length
theorem cntK_all (vs : List B3) (view val : Int) : cntK vs view val vs.length = cntB vs view val := by simp [cntK, cntB]
theorem take_get {α : Type} (vs : List α) (d : α) (k : Nat) (h : k < vs.length) : vs.take (k + 1) = vs.take k ++ [vs.getD k d] := by
  rw [List.take_add_one, List.getElem?_eq_getElem h]
  simp [List.getD_eq_getElem?_getD, List.getElem?_eq_getElem h]
theorem cntK_step (vs : List B3) (view val : Int) (k : Nat) (h : k < vs.length) : cntK vs view val (k + 1) = cntK vs view val k + (if isAt view val (vs.getD k z3) then 1 else 0) := by
  unfold cntK
  rw [take_get vs z3 k h, List.filter_append, List.length_append]
  congr 1
  rcases h1 : isAt view val (vs.getD k z3) with _ | _ <;> simp only [List.filter, h1] <;> rfl
theorem cntK_le (vs : List B3) (view val : Int) (k : Nat) : cntK vs view val k ≤ k := by
  unfold cntK
  exact Nat.le_trans (List.length_filter_le _ _) (by simp; omega)

/-- The box of a tally that came in, and what was there. -/
theorem tally_box (w : World) (A : Option Addr) (n c : Nat) : ∀ wr, Below (w.heap.size + 1) (w.alloc (.cells #[.slice A n c] 37)) wr → Blk wr w.heap.size 37 #[.slice A n c] ∧ Below w.heap.size w wr :=
  fun wr h => ⟨(Blk.new w 37 #[.slice A n c]).below h (by omega), Below.trans ((Below.refl _ _).alloc (Nat.le_refl _) _) (h.mono (by omega))⟩

theorem specTallyOk_is (q : Bool) (A : Option Addr) (c : Nat) (vs : List B3) (hq : tallyOkB vs = q) (w : World) (hr : Rd3 w w.heap.size A vs) (hn : vs.length ≤ 1048576) :
    Calls Try.prog 103 #[.agg #[.slice A vs.length c]] w fun e w' => e = .returned (.bool q) ∧ Below w.heap.size w w' := by
  rw [← hq]; exact specTallyOk_any A c vs w hr hn

def countR (vs : List B3) (view val : Int) : Int := if tallyOkB vs then (cntB vs view val : Int) else 0
/-- What somebody told in a view: the first that fits. -/
def isOf (view who : Int) (u : B3) : Bool := decide (u.2.1 = view ∧ u.1 = who)
def toldR (vs : List B3) (view who : Int) : Int := if tallyOkB vs then ((vs.find? (isOf view who)).map (·.2.2)).getD 0 else 0
def toldQ (vs : List B3) (view who : Int) : Bool := tallyOkB vs && (vs.find? (isOf view who)).isSome
theorem find_no {vs : List B3} {p : B3 → Bool} (h : ∀ j, j < vs.length → p (vs.getD j z3) = false) : vs.find? p = none := by
  rw [List.find?_eq_none]
  intro x hx
  obtain ⟨j, hj, rfl⟩ := List.getElem_of_mem hx
  have := h j hj
  rw [List.getD_eq_getElem?_getD, List.getElem?_eq_getElem hj] at this
  simpa using this
theorem find_at : ∀ {vs : List B3} {p : B3 → Bool} {k : Nat}, k < vs.length → (∀ j, j < k → p (vs.getD j z3) = false) → p (vs.getD k z3) = true → vs.find? p = some (vs.getD k z3)
  | [], _, _, hk, _, _ => by simp at hk
  | u :: us, p, 0, _, _, h => by
    have h : p u = true := by simpa using h
    simp [List.find?, h]
  | u :: us, p, k + 1, hk, hn, h => by
    have h0 : p u = false := by simpa using hn 0 (by omega)
    have := find_at (vs := us) (p := p) (k := k) (by simpa using hk) (fun j hj => by simpa using hn (j + 1) (by omega)) (by simpa using h)
    simp only [List.find?, h0]
    simpa using this
end Go.Proofs.Ytfdfjmibjnmhpaa.V
