/-
  What WithVote of the model answers: its contract. No statement is proved here.
-/
import Derived.Test.YtaegcdbgnjlbdaaWithVote
import Derived.Test.YtaegcdbgnjlbdaaMsgOk
import Derived.Deep.RegionLaw
set_option linter.unusedVariables false
set_option maxRecDepth 100000
namespace Go.Proofs.Ytaegcdbgnjlbdaa.V
open Go.RowKit Go.Proofs.Ytaegcdbgnjlbdaa.B

def insS (vs : List (Int × Int)) (k : Nat) (a b : Int) : List (Int × Int) := vs.take k ++ (a, b) :: vs.drop k
theorem insS_len (vs : List (Int × Int)) (k : Nat) (a b : Int) (hk : k ≤ vs.length) : (insS vs k a b).length = vs.length + 1 := by simp [insS]; omega
theorem insS_lo (vs : List (Int × Int)) (k j : Nat) (a b : Int) (hk : k ≤ vs.length) (hj : j < k) : (insS vs k a b)[j]? = some (vs.getD j (0, 0)) := by
  unfold insS
  rw [List.getElem?_append_left (by simp; omega), List.getElem?_take_of_lt hj]
  simp [List.getD, List.getElem?_eq_getElem (show j < vs.length by omega)]
theorem insS_at (vs : List (Int × Int)) (k : Nat) (a b : Int) (hk : k ≤ vs.length) : (insS vs k a b)[k]? = some (a, b) := by
  unfold insS
  rw [List.getElem?_append_right (by simp; omega)]
  simp [Nat.min_eq_left hk]
theorem insS_hi (vs : List (Int × Int)) (k j : Nat) (a b : Int) (hk : k ≤ j) (hj : j < vs.length) : (insS vs k a b)[j + 1]? = some (vs.getD j (0, 0)) := by
  unfold insS
  rw [List.getElem?_append_right (by simp; omega), List.length_take, Nat.min_eq_left (by omega), show j + 1 - k = (j - k) + 1 by omega, List.getElem?_cons_succ, List.getElem?_drop, show k + (j - k) = j by omega]
  simp [List.getD, List.getElem?_eq_getElem hj]
theorem take_one {l : List (Int × Int)} {i : Nat} {p : Int × Int} (h : l[i]? = some p) : vcells (l.take (i + 1)) = vcells (l.take i) ++ [.int .i64 p.1, .int .i64 p.2] := by
  have hi : i < l.length := (List.getElem?_eq_some_iff.1 h).1
  rw [List.take_succ_eq_append_getElem hi, vcells_append]
  have : l[i] = p := by rw [List.getElem?_eq_getElem hi] at h; exact Option.some.inj h
  rw [this]; rfl

theorem own_on {w w' : World} {b e size n : Nat} {v : Value} {xs : List Value} (h : w.ownsRow b e size v n xs) (hb : Below w.heap.size w w') : w'.ownsRow b e size v n xs := by
  refine ⟨h.1, ?_⟩
  rcases h.2 with h2 | ⟨g, cap, cur, hv, hg, hh, r⟩
  · exact .inl h2
  · exact .inr ⟨g, cap, cur, hv, hg, (hb.block g (Blk.lt hh)).trans hh, r⟩
def Cv (v x a b : Int) (ov : Value) : Array Value := #[.int .i64 3, .int .i64 v, .int .i64 x, .int .i64 a, .int .i64 b, ov]
/-- The message that is being made: its box, its row of votes, and what was there as it was. -/
structure St (w1 W : World) (v x a b : Int) (ov : Value) (m : Nat) (ys : List Value) : Prop where
  box : Blk W w1.heap.size 27 (Cv v x a b ov)
  own : W.ownsRow (w1.heap.size + 1) 24 2 ov m ys
  bel : Below w1.heap.size w1 W
theorem St.on {w1 W W' : World} {v x a b : Int} {ov : Value} {m : Nat} {ys : List Value} (h : St w1 W v x a b ov m ys) (hb : Below W.heap.size W W') : St w1 W' v x a b ov m ys :=
  ⟨h.box.on hb, own_on h.own hb, on_ h.bel hb⟩
theorem St.other {w1 W W4 : World} {v x a b : Int} {ov : Value} {m : Nat} {ys : List Value} {O : Obj} (h : St w1 W v x a b ov m ys) (hgr : (W.alloc O).grownBy W4 ov.ownBlock) : Blk W4 w1.heap.size 27 (Cv v x a b ov) :=
  (hgr.block _ (by have := h.box.lt; simp; omega) (fun e => by have := (h.own.lt _ e.symm).1; omega)).trans (h.box.alloc O)
theorem St.step {w1 W W4 : World} {v x a b : Int} {ov v1 : Value} {m k : Nat} {ys zs : List Value} {O : Obj} (h : St w1 W v x a b ov m ys) (hgr : (W.alloc O).grownBy W4 ov.ownBlock) (hown : W4.ownsRow (w1.heap.size + 1) 24 2 v1 k zs) :
    St w1 (W4.setCell ⟨w1.heap.size, 5, none⟩ v1) v x a b v1 k zs :=
  ⟨by have := (h.other hgr).set_ 5 v1; exact this, ownsRow_setCell_below hown (by simp) v1, ((h.bel.alloc h.bel.size O).grown hgr (by have := h.bel.size; simp; omega) (fun j hj => by have := (h.own.lt j hj).1; omega)).setCell (Nat.le_refl _) v1⟩

theorem grown_undrew {A B : World} {row : Option Nat} (h : A.drew.grownBy B row) : A.grownBy B row := ⟨h.os, h.tape, h.output, h.size, h.block⟩
theorem reads_new (u : World) (a b : Int) : Reads (u.alloc (.cells #[.int .i64 a, .int .i64 b] 24)) (u.heap.size + 1) 2 (some ⟨u.heap.size, 0, none⟩) 1 [.int .i64 a, .int .i64 b] :=
  ⟨rfl, fun _ => ⟨_, rfl, by simp, World.news_of_block (cs := #[.int .i64 a, .int .i64 b]) (heap_alloc_new u _)⟩⟩

/-- The first place at which a greater view stands. -/
def Gt (vs : List (Int × Int)) (a : Int) (k : Nat) : Prop := k ≤ vs.length ∧ (∀ j, j < k → ¬ a < (vs.getD j (0, 0)).1) ∧ (k < vs.length → a < (vs.getD k (0, 0)).1)

end Go.Proofs.Ytaegcdbgnjlbdaa.V
