/-
  Rows of numbers: how they read, comparison, marks. No statement is proved here.
-/
import Derived.Test.YtaegcdbgnjlbdaaBal2
import Derived.Test.YtaegcdbgnjlbdaaTallyVoters
set_option linter.unusedVariables false
set_option maxRecDepth 100000
namespace Go.Proofs.Ytaegcdbgnjlbdaa.B
open Go.RowKit

/-- A slice value at address A reads, below block Bd, as the bytes xs. -/
def RdI (w : World) (Bd : Nat) (A : Option Addr) (xs : List Int) : Prop :=
  0 < xs.length → ∃ b off, A = some ⟨b, off, none⟩ ∧ b < Bd ∧ ∀ i, i < xs.length → w.cell? ⟨b, off + i, none⟩ = some (.int .i64 (xs.getD i 0))
section
variable {w w' : World} {Bd Bd' : Nat} {A : Option Addr} {xs : List Int}
theorem RdI.keep (h : RdI w Bd A xs) (hk : ∀ b o, b < Bd → w'.cell? ⟨b, o, none⟩ = w.cell? ⟨b, o, none⟩) : RdI w' Bd A xs := fun hn => by
  obtain ⟨b, off, e, hb, hc⟩ := h hn
  exact ⟨b, off, e, hb, fun i hi => (hk _ _ hb).trans (hc i hi)⟩
theorem RdI.more (h : RdI w Bd A xs) (hB : Bd ≤ Bd') : RdI w Bd' A xs := fun hn => by
  obtain ⟨b, off, e, hb, hc⟩ := h hn
  exact ⟨b, off, e, by omega, hc⟩
theorem RdI.below (h : RdI w Bd A xs) (hb : Below Bd w w') : RdI w' Bd A xs := h.keep fun _ _ hp => hb.cell hp
theorem RdI.alloc (h : RdI w Bd A xs) (hB : Bd ≤ w.heap.size) (o : Obj) : RdI (w.alloc o) Bd A xs := h.keep fun b o' hp => World.cell?_alloc_lt w o ⟨b, o', none⟩ (by simpa using (show b < w.heap.size by omega))
theorem RdI.on (h : RdI w w.heap.size A xs) (hb : Below w.heap.size w w') : RdI w' w'.heap.size A xs := (h.below hb).more hb.size
theorem RdI.up (h : RdI w w.heap.size A xs) (O : Obj) : RdI (w.alloc O) (w.alloc O).heap.size A xs := (h.alloc (Nat.le_refl _) O).more (by simp)
theorem RdI.nil_ : RdI w Bd A [] := fun h => absurd h (by simp)
theorem RdI.at_ (h : RdI w Bd A xs) {k : Nat} (hk : k < xs.length) : ∃ b off, A = some ⟨b, off, none⟩ ∧ b < Bd ∧ w.cell? ⟨b, off + k, none⟩ = some (.int .i64 (xs.getD k 0)) := by
  obtain ⟨b, off, rfl, hb, hc⟩ := h (by omega)
  exact ⟨b, off, rfl, hb, hc k hk⟩
end

/-- The first k bytes of xs stand in the cells cs. -/
def PI (cs : Array Value) (xs : List Int) (k : Nat) : Prop := xs.length ≤ cs.size ∧ ∀ i, i < k → cs[i]? = some (.int .i64 (xs.getD i 0))
theorem PI.zero {cs : Array Value} {xs : List Int} (h : xs.length ≤ cs.size) : PI cs xs 0 := ⟨h, fun i hi => absurd hi (by omega)⟩
theorem PI.step {cs : Array Value} {xs : List Int} {k : Nat} (h : PI cs xs k) (hk : k < xs.length) : PI (cs.setIfInBounds k (.int .i64 (xs.getD k 0))) xs (k + 1) := by
  refine ⟨by simpa using h.1, fun i hi => ?_⟩
  have hs := h.1
  by_cases e : i = k
  · subst e
    rw [Array.getElem?_setIfInBounds_self_of_lt (by omega)]
  · rw [Array.getElem?_setIfInBounds_ne (by omega)]
    exact h.2 i (by omega)
theorem PI.rd {w : World} {g t Bd : Nat} {cs : Array Value} {xs : List Int} (h : PI cs xs xs.length) (hb : Blk w g t cs) (hg : g < Bd) : RdI w Bd (some ⟨g, 0, none⟩) xs :=
  fun _ => ⟨g, 0, rfl, hg, fun i hi => by rw [Nat.zero_add, hb.cell]; exact h.2 i hi⟩

/-- A slice of bytes of the call's own: nil, or a row of its own whose first cells are xs. -/
def OI (w : World) (t base : Nat) (A : Option Addr) (xs : List Int) : Prop := (A = none ∧ xs = []) ∨ ∃ g cur, A = some ⟨g, 0, none⟩ ∧ base ≤ g ∧ Blk w g t cur ∧ PI cur xs xs.length
theorem OI.nil_ {w : World} {t base : Nat} : OI w t base none [] := .inl ⟨rfl, rfl⟩
theorem OI.of_own {w : World} {base t n c : Nat} {A : Option Addr} {xs : List Int} (h : w.ownsRow base t 1 (.slice A n c) n (xs.map (Value.int .i64))) : n = xs.length ∧ OI w t base A xs := by
  obtain ⟨hl, h⟩ := h
  have hn : n = xs.length := by simpa using hl.symm
  refine ⟨hn, ?_⟩
  rcases h with ⟨h1, h2⟩ | ⟨g, cap, cur, h1, h2, h3, h4, h5, h6, h7⟩
  · injection h1 with h1
    exact .inl ⟨h1, List.eq_nil_of_length_eq_zero (by omega)⟩
  · injection h1 with h1
    refine .inr ⟨g, cur, h1, h2, h3, by omega, fun i hi => ?_⟩
    have hi' : i < n := by omega
    have : (cur.toList.take (n * 1))[i]? = some (.int .i64 (xs.getD i 0)) := by
      rw [h7]
      simp [List.getD, List.getElem?_eq_getElem hi]
    rw [List.getElem?_take_of_lt (by omega)] at this
    simpa using this
theorem OI.rd {w : World} {t base : Nat} {A : Option Addr} {xs : List Int} (h : OI w t base A xs) : RdI w w.heap.size A xs := by
  rcases h with ⟨rfl, rfl⟩ | ⟨g, cur, rfl, _, hb, hp⟩
  · exact RdI.nil_
  · exact hp.rd hb hb.lt
theorem OI.on {w w' : World} {t base : Nat} {A : Option Addr} {xs : List Int} (h : OI w t base A xs) (hb : Below w.heap.size w w') : OI w' t base A xs := by
  rcases h with ⟨rfl, rfl⟩ | ⟨g, cur, rfl, hg, hk, hp⟩
  · exact OI.nil_
  · exact .inr ⟨g, cur, rfl, hg, hk.on hb, hp⟩
end Go.Proofs.Ytaegcdbgnjlbdaa.B

namespace Go.Proofs.Ytaegcdbgnjlbdaa.V
open Go.RowKit Go.Proofs.Ytaegcdbgnjlbdaa.B

/-- The cells cs bear the marks k, k+1, .. as bytes in the n first places. -/
def MKI (cs : Array Value) (k : Int) (n : Nat) : Prop := ∀ i, i < n → cs[i]? = some (.int .i64 (k + i))

theorem MKI.step {cs : Array Value} {k : Int} {j : Nat} (h : MKI cs k j) (hs : j < cs.size) : MKI (cs.setIfInBounds j (.int .i64 (k + j))) k (j + 1) := by
  intro i hi
  by_cases e : i = j
  · subst e
    rw [Array.getElem?_setIfInBounds_self_of_lt hs]
  · rw [Array.getElem?_setIfInBounds_ne (by omega)]
    exact h i (by omega)
theorem only_setI {a w : World} {g : Nat} (h : a.grownBy w (some g)) (i : Nat) (u : Value) : a.grownBy (w.setCell ⟨g, i, none⟩ u) (some g) :=
  ⟨h.os, h.tape, h.output, by simpa [World.setCell] using h.size, fun j hj hne => (Below.heap_setCell w ⟨g, i, none⟩ u j (by
    rintro rfl
    exact hne rfl)).trans (h.block j hj hne)⟩

/-- Whatever row of the call's own it is: the marks are laid, and found again as long as the row is as it was. -/
def MI (w : World) (t base : Nat) (A : Option Addr) (n : Nat) (k : Int) : Prop := n = 0 ∨ ∃ g cur, A = some ⟨g, 0, none⟩ ∧ base ≤ g ∧ Blk w g t cur ∧ MKI cur k n
theorem MI.on {w w' : World} {t base n : Nat} {A : Option Addr} {k : Int} (h : MI w t base A n k) (hb : Below w.heap.size w w') : MI w' t base A n k := by
  rcases h with h | ⟨g, cur, rfl, hg, hk, hp⟩
  · exact .inl h
  · exact .inr ⟨g, cur, rfl, hg, hk.on hb, hp⟩
end Go.Proofs.Ytaegcdbgnjlbdaa.V
