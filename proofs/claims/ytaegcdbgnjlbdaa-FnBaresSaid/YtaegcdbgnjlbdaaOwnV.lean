/-
  Rows of votes of the call's own, and the marks laid on them. No statement is proved here.
-/
import Derived.Test.YtaegcdbgnjlbdaaInsert
set_option linter.unusedVariables false
set_option maxRecDepth 100000
namespace Go.Proofs.Ytaegcdbgnjlbdaa.B
open Go.RowKit

def OV (w : World) (t base : Nat) (A : Option Addr) (us : List (Int × Int)) : Prop := (A = none ∧ us = []) ∨ ∃ g cur, A = some ⟨g, 0, none⟩ ∧ base ≤ g ∧ Blk w g t cur ∧ us.length * 2 ≤ cur.size ∧
  ∀ i, i < us.length → cur[i * 2]? = some (.int .i64 (us.getD i (0, 0)).1) ∧ cur[i * 2 + 1]? = some (.int .i64 (us.getD i (0, 0)).2)
theorem OV.nil_ {w : World} {t base : Nat} : OV w t base none [] := .inl ⟨rfl, rfl⟩
theorem OV.of_own {w : World} {base t c : Nat} {A : Option Addr} {us : List (Int × Int)} (h : w.ownsRow base t 2 (.slice A us.length c) us.length (vcells us)) : OV w t base A us := by
  obtain ⟨hl, h⟩ := h
  rcases h with ⟨h1, h2⟩ | ⟨g, cap, cur, h1, h2, h3, h4, h5, h6, h7⟩
  · injection h1 with h1
    exact .inl ⟨h1, List.eq_nil_of_length_eq_zero h2⟩
  · injection h1 with h1
    refine .inr ⟨g, cur, h1, h2, h3, by omega, fun i hi => ?_⟩
    have hv := vcells_at us i hi
    rw [← h7] at hv
    rw [List.getElem?_take_of_lt (by omega), List.getElem?_take_of_lt (by omega)] at hv
    simpa using hv
theorem OV.rd {w : World} {t base : Nat} {A : Option Addr} {us : List (Int × Int)} (h : OV w t base A us) : Rd w w.heap.size A us := by
  rcases h with ⟨rfl, rfl⟩ | ⟨g, cur, rfl, _, hb, _, hp⟩
  · exact Rd.nil_
  · exact fun _ => ⟨g, 0, rfl, hb.lt, fun i hi => by
      constructor
      · rw [Nat.zero_add, hb.cell]; exact (hp i hi).1
      · rw [Nat.zero_add, hb.cell]; exact (hp i hi).2⟩
theorem OV.on {w w' : World} {t base : Nat} {A : Option Addr} {us : List (Int × Int)} (h : OV w t base A us) (hb : Below w.heap.size w w') : OV w' t base A us := by
  rcases h with ⟨rfl, rfl⟩ | ⟨g, cur, rfl, hg, hk, hp⟩
  · exact OV.nil_
  · exact .inr ⟨g, cur, rfl, hg, hk.on hb, hp⟩
theorem OV.up {w : World} {t base : Nat} {A : Option Addr} {us : List (Int × Int)} (h : OV w t base A us) (O : Obj) : OV (w.alloc O) t base A us := h.on ((Below.refl _ _).alloc (Nat.le_refl _) O)
theorem OV.more {w : World} {t b b' : Nat} {A : Option Addr} {us : List (Int × Int)} (h : OV w t b A us) (hb : b' ≤ b) : OV w t b' A us := by
  rcases h with h | ⟨g, cur, h1, h2, h3⟩
  · exact .inl h
  · exact .inr ⟨g, cur, h1, by omega, h3⟩
theorem OV.lt {w : World} {t base : Nat} {A : Option Addr} {us : List (Int × Int)} (h : OV w t base A us) : ∀ g, A = some ⟨g, 0, none⟩ → g < w.heap.size := by
  intro g hA
  rcases h with ⟨rfl, _⟩ | ⟨g', cur, rfl, _, hk, _⟩
  · cases hA
  · injection hA with hA
    injection hA with hA
    subst hA
    exact hk.lt
theorem OV.ge {w : World} {t base : Nat} {A : Option Addr} {us : List (Int × Int)} (h : OV w t base A us) : ∀ g, A = some ⟨g, 0, none⟩ → base ≤ g := by
  intro g hA
  rcases h with ⟨rfl, _⟩ | ⟨g', cur, rfl, hb, hk, _⟩
  · cases hA
  · injection hA with hA
    injection hA with hA
    subst hA
    exact hb
theorem OV.far {w w' : World} {t base g : Nat} {A : Option Addr} {us : List (Int × Int)} (h : OV w t base A us) (hgr : w.grownBy w' (some g)) (hne : ∀ g', A = some ⟨g', 0, none⟩ → g' ≠ g) : OV w' t base A us := by
  rcases h with ⟨rfl, rfl⟩ | ⟨g', cur, rfl, hb, hk, hp⟩
  · exact OV.nil_
  · exact .inr ⟨g', cur, rfl, hb, hk.farm hgr (hne g' rfl), hp⟩
theorem OV.low {w w' : World} {t base Bd : Nat} {A : Option Addr} {us : List (Int × Int)} (h : OV w t base A us) (hb : Below Bd w w') (hl : ∀ g', A = some ⟨g', 0, none⟩ → g' < Bd) : OV w' t base A us := by
  rcases h with ⟨rfl, rfl⟩ | ⟨g', cur, rfl, hb', hk, hp⟩
  · exact OV.nil_
  · exact .inr ⟨g', cur, rfl, hb', (hb.block g' (hl g' rfl)).trans hk, hp⟩
end Go.Proofs.Ytaegcdbgnjlbdaa.B
namespace Go.Proofs.Ytaegcdbgnjlbdaa.V
open Go.RowKit Go.Proofs.Ytaegcdbgnjlbdaa.B

/-- The marks stand in a row of the call's own. -/
def MV (w : World) (t base : Nat) (A : Option Addr) (n : Nat) (k : Int) : Prop := n = 0 ∨ ∃ g cur, A = some ⟨g, 0, none⟩ ∧ base ≤ g ∧ Blk w g t cur ∧ MK cur k n
theorem MV.on {w w' : World} {t base n : Nat} {A : Option Addr} {k : Int} (h : MV w t base A n k) (hb : Below w.heap.size w w') : MV w' t base A n k := by
  rcases h with h | ⟨g, cur, rfl, hg, hk, hp⟩
  · exact .inl h
  · exact .inr ⟨g, cur, rfl, hg, hk.on hb, hp⟩
end Go.Proofs.Ytaegcdbgnjlbdaa.V
