/-
  Rows of reports of the call's own, as they are appended to. No statement is proved here.
-/
import Derived.Test.YtcfjmhebhhekbaaRepMath
import Derived.Test.YtcfjmhebhhekbaaNums
set_option linter.unusedVariables false
set_option maxRecDepth 100000
namespace Go.Proofs.Ytcfjmhebhhekbaa.B
open Go.RowKit

def pc1 (p : Pp) : List Value := [.int .i64 p.r.f, .int .i64 p.r.v, .int .i64 p.r.x, .slice p.A p.r.vs.length p.c]
def pcells (ps : List Pp) : List Value := ps.flatMap pc1
theorem pcells_len (ps : List Pp) : (pcells ps).length = ps.length * 4 := by
  induction ps with
  | nil => rfl
  | cons p ps ih => simp only [pcells, pc1, List.flatMap_cons, List.length_append, List.length_cons, List.length_nil] at *; omega
theorem pcells_app (ps qs : List Pp) : pcells (ps ++ qs) = pcells ps ++ pcells qs := by simp [pcells]
theorem pcells_at (ps : List Pp) (i j : Nat) (hi : i < ps.length) (hj : j < 4) : (pcells ps)[i * 4 + j]? = (pc1 (ps.getD i zP))[j]? := by
  induction ps generalizing i with
  | nil => simp at hi
  | cons p ps ih =>
    cases i with
    | zero =>
      simp only [pcells, List.flatMap_cons, Nat.zero_mul, Nat.zero_add, List.getD_cons_zero]
      rw [List.getElem?_append_left (by simp [pc1]; omega)]
    | succ i =>
      have := ih i (by simpa using hi)
      have e1 : (i + 1) * 4 + j = i * 4 + j + 4 := by omega
      rw [e1, List.getD_cons_succ, ← this]
      simp only [pcells, List.flatMap_cons]
      rw [List.getElem?_append_right (by simp [pc1])]
      congr 1
theorem pcells_one (ps : List Pp) : ∀ u ∈ pcells ps, u.oneCell' = true := by
  intro u hu
  simp only [pcells, pc1, List.mem_flatMap, List.mem_cons, List.not_mem_nil, or_false] at hu
  obtain ⟨p, _, h | h | h | h⟩ := hu <;> subst h <;> rfl
theorem four_of {ps : List Pp} {i : Nat} (hi : i < ps.length) {at_ : Nat → Option Value} (h : ∀ j, j < 4 → at_ j = (pcells ps)[i * 4 + j]?) : four at_ (ps.getD i zP) := by
  refine ⟨?_, ?_, ?_, ?_⟩
  · rw [h 0 (by omega), pcells_at ps i 0 hi (by omega)]; rfl
  · rw [h 1 (by omega), pcells_at ps i 1 hi (by omega)]; rfl
  · rw [h 2 (by omega), pcells_at ps i 2 hi (by omega)]; rfl
  · rw [h 3 (by omega), pcells_at ps i 3 hi (by omega)]; rfl
theorem RdR.of_own {w : World} {base t n c : Nat} {A : Option Addr} {ps : List Pp} (h : w.ownsRow base t 4 (.slice A n c) n (pcells ps)) (hv : ∀ i, i < ps.length → Rd w w.heap.size (ps.getD i zP).A (ps.getD i zP).r.vs) : n = ps.length ∧ RdR w w.heap.size A ps := by
  obtain ⟨hl, h⟩ := h
  have hn : n = ps.length := by rw [pcells_len] at hl; omega
  refine ⟨hn, fun h0 => ?_⟩
  rcases h with ⟨h1, h2⟩ | ⟨g, cap, cur, h1, h2, h3, h4, h5, h6, h7⟩
  · omega
  · injection h1 with h1
    have hk : Blk w g t cur := h3
    refine ⟨g, 0, h1, hk.lt, fun i hi => ⟨four_of hi fun j hj => ?_, hv i hi⟩⟩
    have hlt : i * 4 + j < n * 4 := by omega
    rw [Nat.zero_add, hk.cell, ← h7, List.getElem?_take_of_lt hlt]
    simp
theorem own_type {w : World} {base e size n : Nat} {v : Value} {xs : List Value} (h : w.ownsRow base e size v n xs) : ∀ g, v.ownBlock = some g → ∃ cur, w.heap[g]? = some (.cells cur e (0, 0)) := by
  intro g hg
  rcases h.2 with ⟨rfl, _⟩ | ⟨g', cap, cur, rfl, _, hb, _⟩
  · simp [Value.ownBlock] at hg
  · simp only [Value.ownBlock, Option.some.injEq] at hg
    subst hg
    exact ⟨cur, hb⟩
/-- The first cells of cs are the votes vs. -/
def PV (cs : Array Value) (vs : List (Int × Int)) : Prop := ∀ i, i < vs.length → cs[i * 2]? = some (.int .i64 (vs.getD i (0, 0)).1) ∧ cs[i * 2 + 1]? = some (.int .i64 (vs.getD i (0, 0)).2)
theorem PV.rd {w : World} {g t Bd : Nat} {cs : Array Value} {vs : List (Int × Int)} (h : PV cs vs) (hb : Blk w g t cs) (hg : g < Bd) : Rd w Bd (some ⟨g, 0, none⟩) vs :=
  fun _ => ⟨g, 0, rfl, hg, fun i hi => by
    have := h i hi
    rw [Nat.zero_add, hb.cell, hb.cell]; exact this⟩
/-- The votes of the reports qs lie in blocks of type t. -/
def VoS (w : World) (t : TypeId) (qs : List Pp) : Prop := ∀ i, i < qs.length → (qs.getD i zP).r.vs = [] ∨ ∃ g cs, (qs.getD i zP).A = some ⟨g, 0, none⟩ ∧ Blk w g t cs ∧ PV cs (qs.getD i zP).r.vs
theorem VoS.nil_ {w : World} {t : TypeId} : VoS w t [] := fun i hi => absurd hi (by simp)
theorem VoS.on {w w' : World} {t : TypeId} {qs : List Pp} (h : VoS w t qs) (hb : Below w.heap.size w w') : VoS w' t qs := fun i hi => (h i hi).imp id fun ⟨g, cs, h1, h2, h3⟩ => ⟨g, cs, h1, h2.on hb, h3⟩
theorem VoS.grown {w w' : World} {t tr : TypeId} {qs : List Pp} {row : Option Nat} (h : VoS w t qs) (hg : w.grownBy w' row) (hr : ∀ g, row = some g → ∃ cur, w.heap[g]? = some (.cells cur tr (0, 0))) (hne : t ≠ tr) : VoS w' t qs := fun i hi =>
  (h i hi).imp id fun ⟨g, cs, h1, h2, h3⟩ => ⟨g, cs, h1, (hg.block g h2.lt (fun e => by
    obtain ⟨cur, h4⟩ := hr g e.symm
    have h5 : w.heap[g]? = some (.cells cs t (0, 0)) := h2
    rw [h5] at h4
    injection h4 with h4
    injection h4 with _ h4 _
    exact hne h4)).trans h2, h3⟩
theorem VoS.push {w : World} {t : TypeId} {qs : List Pp} {p : Pp} (h : VoS w t qs) (hp : p.r.vs = [] ∨ ∃ g cs, p.A = some ⟨g, 0, none⟩ ∧ Blk w g t cs ∧ PV cs p.r.vs) : VoS w t (qs ++ [p]) := fun i hi => by
  by_cases hl : i < qs.length
  · rw [getD_app_lt hl]; exact h i hl
  · have e : i = qs.length := by simp at hi; omega
    have e2 : (qs ++ [p]).getD i zP = p := getD_app_end e.symm
    rw [e2]; exact hp
theorem VoS.rd {w : World} {t : TypeId} {qs : List Pp} (h : VoS w t qs) (i : Nat) (hi : i < qs.length) : Rd w w.heap.size (qs.getD i zP).A (qs.getD i zP).r.vs := by
  rcases h i hi with h1 | ⟨g, cs, h1, h2, h3⟩
  · rw [h1]; exact Rd.nil_
  · rw [h1]; exact h3.rd h2 h2.lt
theorem own_app4 {w : World} {b e : Nat} {v : Value} {ps : List Pp} {p : Pp} {n : Nat} (hn : n = ps.length) (h : w.ownsRow b e 4 v (n + 1) (pcells ps ++ pc1 p)) : w.ownsRow b e 4 v (n + 1) (pcells (ps ++ [p])) := by
  rw [pcells_app]
  have : pcells [p] = pc1 p := by simp [pcells]
  rw [this]; exact h
theorem lit_rep (w : World) (t : TypeId) (p : Pp) : Reads (w.alloc (.cells #[.int .i64 p.r.f, .int .i64 p.r.v, .int .i64 p.r.x, .slice p.A p.r.vs.length p.c] t)) (w.heap.size + 1) 4 (some ⟨w.heap.size, 0, none⟩) 1 (pc1 p) := by
  refine ⟨by simp [pc1], fun _ => ⟨_, rfl, by simp, fun j u hu => ?_⟩⟩
  have hk := Blk.new w t #[.int .i64 p.r.f, .int .i64 p.r.v, .int .i64 p.r.x, .slice p.A p.r.vs.length p.c]
  have hadd : (⟨w.heap.size, 0, none⟩ : Addr).add j = ⟨w.heap.size, j, none⟩ := by unfold Addr.add; split <;> simp_all
  rw [hadd, hk.cell]
  simpa [pc1] using hu
end Go.Proofs.Ytcfjmhebhhekbaa.B
