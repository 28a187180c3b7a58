/-
  A row of ballots of the call's own: how it reads, and what marks leave. No statement is proved here.
-/
import Derived.Test.YtfebeafonifpdaaOwnI
set_option linter.unusedVariables false
set_option maxRecDepth 100000
namespace Go.Proofs.Ytfebeafonifpdaa.B
open Go.RowKit

def bcells (vs : List B3) : List Value := vs.flatMap fun p => [.int .i64 p.1, .int .i64 p.2.1, .int .i64 p.2.2]
theorem bcells_len (vs : List B3) : (bcells vs).length = vs.length * 3 := by
  induction vs with
  | nil => rfl
  | cons p vs ih => simp only [bcells, List.flatMap_cons, List.length_append, List.length_cons, List.length_nil] at *; omega
theorem bcells_append (vs us : List B3) : bcells (vs ++ us) = bcells vs ++ bcells us := by simp [bcells]
theorem bcells_at (vs : List B3) (i : Nat) (hi : i < vs.length) : (bcells vs)[i * 3]? = some (.int .i64 (vs.getD i z3).1) ∧ (bcells vs)[i * 3 + 1]? = some (.int .i64 (vs.getD i z3).2.1) ∧ (bcells vs)[i * 3 + 2]? = some (.int .i64 (vs.getD i z3).2.2) := by
  induction vs generalizing i with
  | nil => simp at hi
  | cons p vs ih =>
    cases i with
    | zero => simp [bcells]
    | succ i =>
      have := ih i (by simpa using hi)
      have e1 : (i + 1) * 3 = i * 3 + 3 := by omega
      rw [e1]
      exact ⟨by simpa [bcells] using this.1, by simpa [bcells] using this.2.1, by simpa [bcells] using this.2.2⟩
theorem bcells_one (vs : List B3) : ∀ u ∈ bcells vs, u.oneCell' = true := by
  intro u hu
  simp only [bcells, List.mem_flatMap, List.mem_cons, List.not_mem_nil, or_false] at hu
  obtain ⟨p, _, h | h | h⟩ := hu <;> subst h <;> rfl
theorem Rd3.reads {w : World} {Bd : Nat} {A : Option Addr} {vs : List B3} (h : Rd3 w Bd A vs) : Reads w Bd 3 A vs.length (bcells vs) := by
  refine ⟨bcells_len vs, fun hn => ?_⟩
  obtain ⟨b, off, rfl, hb, hc⟩ := h hn
  refine ⟨_, rfl, hb, fun j u hu => ?_⟩
  have hj : j < (bcells vs).length := (List.getElem?_eq_some_iff.1 hu).1
  rw [bcells_len] at hj
  have hadd : (⟨b, off, none⟩ : Addr).add j = ⟨b, off + j, none⟩ := by unfold Addr.add; split <;> simp_all
  rw [hadd]
  have h3 : j = (j / 3) * 3 ∨ j = (j / 3) * 3 + 1 ∨ j = (j / 3) * 3 + 2 := by omega
  have ha := bcells_at vs (j / 3) (by omega)
  have hcc := hc (j / 3) (by omega)
  rcases h3 with e | e | e
  · have h1 := ha.1
    have h2 := hcc.1
    rw [← e] at h1 h2
    rw [h2, ← h1, hu]
  · have h1 := ha.2.1
    have h2 := hcc.2.1
    rw [← e] at h1
    rw [Nat.add_assoc, ← e] at h2
    rw [h2, ← h1, hu]
  · have h1 := ha.2.2
    have h2 := hcc.2.2
    rw [← e] at h1
    rw [Nat.add_assoc, ← e] at h2
    rw [h2, ← h1, hu]
theorem Rd3.take_ {w : World} {Bd : Nat} {A : Option Addr} {vs : List B3} (h : Rd3 w Bd A vs) (k : Nat) (hk : k ≤ vs.length) : Rd3 w Bd A (vs.take k) := fun hn => by
  rw [List.length_take] at hn
  obtain ⟨b, off, rfl, hb, hc⟩ := h (by omega)
  refine ⟨b, off, rfl, hb, fun i hi => ?_⟩
  rw [List.length_take] at hi
  have e : (vs.take k).getD i z3 = vs.getD i z3 := by
    simp only [List.getD]
    rw [List.getElem?_take_of_lt (by omega)]
  rw [e]
  exact hc i (by omega)
theorem Rd3.drop_ {w : World} {Bd b off : Nat} {vs : List B3} (h : Rd3 w Bd (some ⟨b, off, none⟩) vs) (k : Nat) : Rd3 w Bd (some ⟨b, off + k * 3, none⟩) (vs.drop k) := fun hn => by
  rw [List.length_drop] at hn
  obtain ⟨b', off', e, hb, hc⟩ := h (by omega)
  injection e with e
  injection e with e1 e2
  subst e1 e2
  refine ⟨b, off + k * 3, rfl, hb, fun i hi => ?_⟩
  rw [List.length_drop] at hi
  have e : (vs.drop k).getD i z3 = vs.getD (k + i) z3 := by
    simp only [List.getD]
    rw [List.getElem?_drop]
  have := hc (k + i) (by omega)
  rw [e, show off + k * 3 + i * 3 = off + (k + i) * 3 by omega]
  exact this

def OT (w : World) (t base : Nat) (A : Option Addr) (us : List B3) : Prop := (A = none ∧ us = []) ∨ ∃ g cur, A = some ⟨g, 0, none⟩ ∧ base ≤ g ∧ Blk w g t cur ∧ us.length * 3 ≤ cur.size ∧
  ∀ i, i < us.length → cur[i * 3]? = some (.int .i64 (us.getD i z3).1) ∧ cur[i * 3 + 1]? = some (.int .i64 (us.getD i z3).2.1) ∧ cur[i * 3 + 2]? = some (.int .i64 (us.getD i z3).2.2)
theorem OT.nil_ {w : World} {t base : Nat} : OT w t base none [] := .inl ⟨rfl, rfl⟩
theorem OT.of_own {w : World} {base t c : Nat} {A : Option Addr} {us : List B3} (h : w.ownsRow base t 3 (.slice A us.length c) us.length (bcells us)) : OT w t base A us := by
  obtain ⟨hl, h⟩ := h
  rcases h with ⟨h1, h2⟩ | ⟨g, cap, cur, h1, h2, h3, h4, h5, h6, h7⟩
  · injection h1 with h1
    exact .inl ⟨h1, List.eq_nil_of_length_eq_zero h2⟩
  · injection h1 with h1
    refine .inr ⟨g, cur, h1, h2, h3, by omega, fun i hi => ?_⟩
    have hv := bcells_at us i hi
    rw [← h7] at hv
    rw [List.getElem?_take_of_lt (by omega), List.getElem?_take_of_lt (by omega), List.getElem?_take_of_lt (by omega)] at hv
    simpa using hv
theorem OT.rd {w : World} {t base : Nat} {A : Option Addr} {us : List B3} (h : OT w t base A us) : Rd3 w w.heap.size A us := by
  rcases h with ⟨rfl, rfl⟩ | ⟨g, cur, rfl, _, hb, _, hp⟩
  · exact Rd3.nil_
  · exact fun _ => ⟨g, 0, rfl, hb.lt, fun i hi => by
      rw [Nat.zero_add, hb.cell, hb.cell, hb.cell]; exact hp i hi⟩
theorem OT.on {w w' : World} {t base : Nat} {A : Option Addr} {us : List B3} (h : OT w t base A us) (hb : Below w.heap.size w w') : OT w' t base A us := by
  rcases h with ⟨rfl, rfl⟩ | ⟨g, cur, rfl, hg, hk, hp⟩
  · exact OT.nil_
  · exact .inr ⟨g, cur, rfl, hg, hk.on hb, hp⟩
theorem OT.up {w : World} {t base : Nat} {A : Option Addr} {us : List B3} (h : OT w t base A us) (O : Obj) : OT (w.alloc O) t base A us := h.on ((Below.refl _ _).alloc (Nat.le_refl _) O)
theorem OT.more {w : World} {t b b' : Nat} {A : Option Addr} {us : List B3} (h : OT w t b A us) (hb : b' ≤ b) : OT w t b' A us := by
  rcases h with h | ⟨g, cur, h1, h2, h3⟩
  · exact .inl h
  · exact .inr ⟨g, cur, h1, by omega, h3⟩
theorem OT.lt {w : World} {t base : Nat} {A : Option Addr} {us : List B3} (h : OT w t base A us) : ∀ g, A = some ⟨g, 0, none⟩ → g < w.heap.size := by
  intro g hA
  rcases h with ⟨rfl, _⟩ | ⟨g', cur, rfl, _, hk, _⟩
  · cases hA
  · injection hA with hA
    injection hA with hA
    subst hA
    exact hk.lt
theorem OT.ge {w : World} {t base : Nat} {A : Option Addr} {us : List B3} (h : OT w t base A us) : ∀ g, A = some ⟨g, 0, none⟩ → base ≤ g := by
  intro g hA
  rcases h with ⟨rfl, _⟩ | ⟨g', cur, rfl, hb, hk, _⟩
  · cases hA
  · injection hA with hA
    injection hA with hA
    subst hA
    exact hb
theorem OT.keep {w w' : World} {t base : Nat} {A : Option Addr} {us : List B3} {row : Option Nat} (h : OT w t base A us) (hgr : w.grownBy w' row) (hne : ∀ g', A = some ⟨g', 0, none⟩ → row ≠ some g') : OT w' t base A us := by
  rcases h with ⟨rfl, rfl⟩ | ⟨g', cur, rfl, hb, hk, hp⟩
  · exact OT.nil_
  · exact .inr ⟨g', cur, rfl, hb, (hgr.block g' hk.lt (fun e => hne g' rfl e.symm)).trans hk, hp⟩
theorem OT.set_ {w : World} {t base : Nat} {A : Option Addr} {us : List B3} (h : OT w t base A us) {p : Addr} (hp : p.block < base) (u : Value) : OT (w.setCell p u) t base A us := by
  rcases h with ⟨rfl, rfl⟩ | ⟨g', cur, rfl, hb', hk, hh⟩
  · exact OT.nil_
  · exact .inr ⟨g', cur, rfl, hb', hk.far (by omega) u, hh⟩
/-- The marks stand in a row of the call's own. -/
def MT (w : World) (t base : Nat) (A : Option Addr) (n : Nat) (k : Int) : Prop := n = 0 ∨ ∃ g cur, A = some ⟨g, 0, none⟩ ∧ base ≤ g ∧ Blk w g t cur ∧ MK3 cur k n
theorem MT.on {w w' : World} {t base n : Nat} {A : Option Addr} {k : Int} (h : MT w t base A n k) (hb : Below w.heap.size w w') : MT w' t base A n k := by
  rcases h with h | ⟨g, cur, rfl, hg, hk, hp⟩
  · exact .inl h
  · exact .inr ⟨g, cur, rfl, hg, hk.on hb, hp⟩
theorem MT.up {w : World} {t base n : Nat} {A : Option Addr} {k : Int} (h : MT w t base A n k) (O : Obj) : MT (w.alloc O) t base A n k := h.on ((Below.refl _ _).alloc (Nat.le_refl _) O)
end Go.Proofs.Ytfebeafonifpdaa.B

namespace Go.Proofs.Ytfebeafonifpdaa.V
open Go.RowKit Go.Proofs.Ytfebeafonifpdaa.B
end Go.Proofs.Ytfebeafonifpdaa.V
