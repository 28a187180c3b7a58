/-
  What MsgBytes answers, of the model and of the program: contracts. No statement is proved here.
-/
import Derived.Test.YtaegcdbgnjlbdaaBytes
import Derived.Test.YtaegcdbgnjlbdaaImplMsgOk
import Derived.Deep.RegionHeld3
import Derived.WalkSmall
set_option linter.unusedVariables false
set_option maxRecDepth 100000
namespace Go.Proofs.Ytaegcdbgnjlbdaa.V
open Go.RowKit Go.Proofs.Ytaegcdbgnjlbdaa.B

theorem infoB : (Try.prog.info? 5).map (fun i => (i.zero, i.size, i.bytes)) = some (some (.int .u8 0), 1, 1) := by kernel_rfl

/-- The bytes of a message's first part, and of k of its votes. -/
def headBytes (k v x a b : Int) (n : Nat) : List Int := [k % 256, v % 256, x % 256, a % 256, b % 256, (n : Int) % 256]
def voteBytes (vs : List (Int × Int)) : List Int := vs.flatMap fun p => [p.1 % 256, p.2 % 256]
def msgBytesL (k v x a b : Int) (vs : List (Int × Int)) (j : Nat) : List Int := headBytes k v x a b vs.length ++ voteBytes (vs.take j)
theorem voteBytes_len (vs : List (Int × Int)) : (voteBytes vs).length = 2 * vs.length := by
  induction vs with
  | nil => rfl
  | cons p vs ih => simp only [voteBytes, List.flatMap_cons, List.length_append, List.length_cons, List.length_nil] at *; omega
theorem msgBytesL_len (k v x a b : Int) (vs : List (Int × Int)) (j : Nat) (hj : j ≤ vs.length) : (msgBytesL k v x a b vs j).length = 6 + 2 * j := by
  unfold msgBytesL headBytes
  rw [List.length_append, voteBytes_len, List.length_take]
  simp; omega
theorem msgBytesL_step (k v x a b : Int) (vs : List (Int × Int)) (j : Nat) (hj : j < vs.length) :
    msgBytesL k v x a b vs (j + 1) = msgBytesL k v x a b vs j ++ [(vs.getD j (0, 0)).1 % 256, (vs.getD j (0, 0)).2 % 256] := by
  unfold msgBytesL
  rw [List.append_assoc]
  congr 1
  rw [List.take_succ_eq_append_getElem hj]
  unfold voteBytes
  rw [List.flatMap_append]
  simp [List.getD, List.getElem?_eq_getElem hj]

/-- A row of the call's own, as the functions hand it back. -/
def BRes (xs : List Int) (q : Bool) (w : World) (e : Ending) (w' : World) : Prop :=
  ∃ B d, e = .returned (.tuple #[.slice B xs.length d, .bool q]) ∧ OB w' 5 w.heap.size B xs ∧ Below w.heap.size w w'
def BRes1 (xs : List Int) (w : World) (e : Ending) (w' : World) : Prop :=
  ∃ B d, e = .returned (.slice B xs.length d) ∧ OB w' 5 w.heap.size B xs ∧ Below w.heap.size w w'

theorem own_more {w w' : World} {b b' e size n : Nat} {v : Value} {xs : List Value} (h : w.ownsRow b e size v n xs) (hb : b' ≤ b) : w.ownsRow b' e size v n xs := by
  refine ⟨h.1, ?_⟩
  rcases h.2 with h2 | ⟨g, cap, cur, hv, hg, r⟩
  · exact .inl h2
  · exact .inr ⟨g, cap, cur, hv, by omega, r⟩

/-- What the walk ends with, from the relation at its last round. -/
theorem bres_of {w w' : World} {base n : Nat} {ov : Value} {ys : List Value} {xs : List Int} (hown : w'.ownsRow base 5 1 ov n ys) (hb : w.heap.size ≤ base) (hy : ys = xs.map (Value.int .u8)) (hn : 0 < n) (hB : Below w.heap.size w w') :
    ∃ B d, ov = .slice B xs.length d ∧ OB w' 5 w.heap.size B xs ∧ Below w.heap.size w w' := by
  subst hy
  obtain ⟨g, cap, rfl, _, _⟩ := hown.form hn
  obtain ⟨h1, h2⟩ := OB.of_own (own_more (w' := w) hown hb)
  subst h1
  exact ⟨_, _, rfl, h2, hB⟩

theorem head_own (w : World) (o : Obj) (k v x a b : Int) (vs : List (Int × Int)) :
    ((w.alloc o).alloc (.cells #[.int .u8 (k % 256), .int .u8 (v % 256), .int .u8 (x % 256), .int .u8 (a % 256), .int .u8 (b % 256), .int .u8 ((vs.length : Int) % 256)] 5)).ownsRow (w.heap.size + 1) 5 1 (.slice (some ⟨w.heap.size + 1, 0, none⟩) 6 6) 6 ((msgBytesL k v x a b vs 0).map (Value.int .u8)) := by
  have h := World.ownsRow_lit (e := 5) (base := w.heap.size + 1) (size := 1) (w.alloc o) #[.int .u8 (k % 256), .int .u8 (v % 256), .int .u8 (x % 256), .int .u8 (a % 256), .int .u8 (b % 256), .int .u8 ((vs.length : Int) % 256)] 6 (by simp) (by simp [maxLen]) rfl
  simpa [msgBytesL, headBytes, voteBytes] using h

end Go.Proofs.Ytaegcdbgnjlbdaa.V
