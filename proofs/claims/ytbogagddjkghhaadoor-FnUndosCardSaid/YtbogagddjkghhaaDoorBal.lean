/-
  Slices of ballots: how they read, and what the helpers of the laws do with ballots and tallies. No statement is proved here.
-/
import Derived.Test.YtbogagddjkghhaaDoorChecked
import Derived.Test.YtbogagddjkghhaaDoorReads
import Derived.StillTailTactics
set_option linter.unusedVariables false
set_option maxRecDepth 100000
namespace Go.Proofs.YtbogagddjkghhaaDoor.B
open Go.RowKit

abbrev B3 := Int × Int × Int
abbrev z3 : B3 := (0, 0, 0)
/-- A slice value at address A reads, below block Bd, as the ballots vs. -/
def Rd3 (w : World) (Bd : Nat) (A : Option Addr) (vs : List B3) : Prop :=
  0 < vs.length → ∃ b off, A = some ⟨b, off, none⟩ ∧ b < Bd ∧ ∀ i, i < vs.length → w.cell? ⟨b, off + i * 3, none⟩ = some (.int .i64 (vs.getD i z3).1) ∧ w.cell? ⟨b, off + i * 3 + 1, none⟩ = some (.int .i64 (vs.getD i z3).2.1) ∧ w.cell? ⟨b, off + i * 3 + 2, none⟩ = some (.int .i64 (vs.getD i z3).2.2)
section
variable {w w' : World} {Bd Bd' : Nat} {A : Option Addr} {vs : List B3}
theorem Rd3.keep (h : Rd3 w Bd A vs) (hk : ∀ b o, b < Bd → w'.cell? ⟨b, o, none⟩ = w.cell? ⟨b, o, none⟩) : Rd3 w' Bd A vs := fun hn => by
  obtain ⟨b, off, e, hb, hc⟩ := h hn
  exact ⟨b, off, e, hb, fun i hi => ⟨(hk _ _ hb).trans (hc i hi).1, (hk _ _ hb).trans (hc i hi).2.1, (hk _ _ hb).trans (hc i hi).2.2⟩⟩
theorem Rd3.more (h : Rd3 w Bd A vs) (hB : Bd ≤ Bd') : Rd3 w Bd' A vs := fun hn => by
  obtain ⟨b, off, e, hb, hc⟩ := h hn
  exact ⟨b, off, e, by omega, hc⟩
theorem Rd3.below (h : Rd3 w Bd A vs) (hb : Below Bd w w') : Rd3 w' Bd A vs := h.keep fun _ _ hp => hb.cell hp
theorem Rd3.alloc (h : Rd3 w Bd A vs) (hB : Bd ≤ w.heap.size) (o : Obj) : Rd3 (w.alloc o) Bd A vs := h.keep fun b o' hp => World.cell?_alloc_lt w o ⟨b, o', none⟩ (by simpa using (show b < w.heap.size by omega))
theorem Rd3.on (h : Rd3 w w.heap.size A vs) (hb : Below w.heap.size w w') : Rd3 w' w'.heap.size A vs := (h.below hb).more hb.size
theorem Rd3.up (h : Rd3 w w.heap.size A vs) (O : Obj) : Rd3 (w.alloc O) (w.alloc O).heap.size A vs := (h.alloc (Nat.le_refl _) O).more (by simp)
theorem Rd3.dr (h : Rd3 w w.heap.size A vs) : Rd3 w.drew w.drew.heap.size A vs := h
theorem Rd3.nil_ : Rd3 w Bd A [] := fun h => absurd h (by simp)
theorem Rd3.at_ (h : Rd3 w Bd A vs) {k : Nat} (hk : k < vs.length) : ∃ b off, A = some ⟨b, off, none⟩ ∧ b < Bd ∧ w.cell? ⟨b, off + k * 3, none⟩ = some (.int .i64 (vs.getD k z3).1) ∧ w.cell? ⟨b, off + k * 3 + 1, none⟩ = some (.int .i64 (vs.getD k z3).2.1) ∧ w.cell? ⟨b, off + k * 3 + 2, none⟩ = some (.int .i64 (vs.getD k z3).2.2) := by
  obtain ⟨b, off, rfl, hb, hc⟩ := h (by omega)
  exact ⟨b, off, rfl, hb, hc k hk⟩
end

/-- The first k ballots of vs stand in the cells cs, which has room for all of vs. -/
def PC3 (cs : Array Value) (vs : List B3) (k : Nat) : Prop :=
  cs.size = vs.length * 3 ∧ ∀ i, i < k → cs[i * 3]? = some (.int .i64 (vs.getD i z3).1) ∧ cs[i * 3 + 1]? = some (.int .i64 (vs.getD i z3).2.1) ∧ cs[i * 3 + 2]? = some (.int .i64 (vs.getD i z3).2.2)
theorem PC3.zero {cs : Array Value} {vs : List B3} (h : cs.size = vs.length * 3) : PC3 cs vs 0 := ⟨h, fun i hi => absurd hi (by omega)⟩
theorem three {cs : Array Value} {k : Nat} {a b c : Value} (hs : k * 3 + 2 < cs.size) (i : Nat) :
    (((cs.setIfInBounds (k * 3) a).setIfInBounds (k * 3 + 1) b).setIfInBounds (k * 3 + 2) c)[i * 3]? = (if i = k then some a else cs[i * 3]?) ∧
    (((cs.setIfInBounds (k * 3) a).setIfInBounds (k * 3 + 1) b).setIfInBounds (k * 3 + 2) c)[i * 3 + 1]? = (if i = k then some b else cs[i * 3 + 1]?) ∧
    (((cs.setIfInBounds (k * 3) a).setIfInBounds (k * 3 + 1) b).setIfInBounds (k * 3 + 2) c)[i * 3 + 2]? = (if i = k then some c else cs[i * 3 + 2]?) := by
  by_cases e : i = k
  · subst e
    simp only [if_true]
    refine ⟨?_, ?_, ?_⟩
    · rw [Array.getElem?_setIfInBounds_ne (by omega), Array.getElem?_setIfInBounds_ne (by omega), Array.getElem?_setIfInBounds_self_of_lt (by omega)]
    · rw [Array.getElem?_setIfInBounds_ne (by omega), Array.getElem?_setIfInBounds_self_of_lt (by simp; omega)]
    · rw [Array.getElem?_setIfInBounds_self_of_lt (by simp; omega)]
  · simp only [if_neg e]
    refine ⟨?_, ?_, ?_⟩ <;> rw [Array.getElem?_setIfInBounds_ne (by omega), Array.getElem?_setIfInBounds_ne (by omega), Array.getElem?_setIfInBounds_ne (by omega)]
theorem PC3.step {cs : Array Value} {vs : List B3} {k : Nat} (h : PC3 cs vs k) (hk : k < vs.length) :
    PC3 (((cs.setIfInBounds (k * 3) (.int .i64 (vs.getD k z3).1)).setIfInBounds (k * 3 + 1) (.int .i64 (vs.getD k z3).2.1)).setIfInBounds (k * 3 + 2) (.int .i64 (vs.getD k z3).2.2)) vs (k + 1) := by
  refine ⟨by simpa using h.1, fun i hi => ?_⟩
  have hs := h.1
  obtain ⟨h0, h1, h2⟩ := three (a := .int .i64 (vs.getD k z3).1) (b := .int .i64 (vs.getD k z3).2.1) (c := .int .i64 (vs.getD k z3).2.2) (show k * 3 + 2 < cs.size by omega) i
  rw [h0, h1, h2]
  by_cases e : i = k
  · subst e; simp
  · simp only [if_neg e]; exact h.2 i (by omega)
theorem PC3.rd {w : World} {g t Bd : Nat} {cs : Array Value} {vs : List B3} (h : PC3 cs vs vs.length) (hb : Blk w g t cs) (hg : g < Bd) : Rd3 w Bd (some ⟨g, 0, none⟩) vs :=
  fun _ => ⟨g, 0, rfl, hg, fun i hi => by
    have := h.2 i hi
    rw [Nat.zero_add, hb.cell, hb.cell, hb.cell]; exact this⟩

/-- The first n ballots bear the marks k, k + 1, .. -/
def MK3 (cs : Array Value) (k : Int) (n : Nat) : Prop :=
  ∀ i, i < n → cs[i * 3]? = some (.int .i64 (k + 3 * i)) ∧ cs[i * 3 + 1]? = some (.int .i64 (k + 3 * i + 1)) ∧ cs[i * 3 + 2]? = some (.int .i64 (k + 3 * i + 1 + 1))
theorem MK3.step {cs : Array Value} {k : Int} {j : Nat} (h : MK3 cs k j) (hs : j * 3 + 2 < cs.size) :
    MK3 (((cs.setIfInBounds (j * 3) (.int .i64 (k + 3 * j))).setIfInBounds (j * 3 + 1) (.int .i64 (k + 3 * j + 1))).setIfInBounds (j * 3 + 2) (.int .i64 (k + 3 * j + 1 + 1))) k (j + 1) := by
  intro i hi
  obtain ⟨h0, h1, h2⟩ := three (a := .int .i64 (k + 3 * j)) (b := .int .i64 (k + 3 * j + 1)) (c := .int .i64 (k + 3 * j + 1 + 1)) hs i
  rw [h0, h1, h2]
  by_cases e : i = j
  · subst e; simp
  · simp only [if_neg e]; exact h i (by omega)
end Go.Proofs.YtbogagddjkghhaaDoor.B

namespace Go.Proofs.YtbogagddjkghhaaDoor.V
open Go.RowKit Go.Proofs.YtbogagddjkghhaaDoor.B
theorem ret_boolB {a b : Bool} (h : a = b) : Ending.returned (.bool a) = .returned (.bool b) := by rw [h]

end Go.Proofs.YtbogagddjkghhaaDoor.V
