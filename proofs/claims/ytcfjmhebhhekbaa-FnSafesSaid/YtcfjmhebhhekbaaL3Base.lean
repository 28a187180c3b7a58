/-
  Rows of reports, read as lists of cells; the place of a report. No statement is proved here.
-/
import Derived.Test.YtcfjmhebhhekbaaRepRow
set_option linter.unusedVariables false
set_option maxRecDepth 100000
namespace Go.Proofs.Ytcfjmhebhhekbaa.B
open Go.RowKit

theorem getD_mem {ps : List Pp} {i : Nat} (hi : i < ps.length) : ps.getD i zP ∈ ps := by
  rw [List.getD_eq_getElem?_getD, List.getElem?_eq_getElem hi]
  exact List.getElem_mem hi
theorem mem_getD {ps : List Pp} {p : Pp} (h : p ∈ ps) : ∃ i, i < ps.length ∧ ps.getD i zP = p := by
  obtain ⟨i, hi, e⟩ := List.mem_iff_getElem.1 h
  exact ⟨i, hi, by rw [List.getD_eq_getElem?_getD, List.getElem?_eq_getElem hi]; exact e⟩
/-- The votes of every one of the reports read. -/
def VsR (w : World) (Bd : Nat) (ps : List Pp) : Prop := ∀ p ∈ ps, Rd w Bd p.A p.r.vs
theorem RdR.vs {w : World} {Bd : Nat} {A : Option Addr} {ps : List Pp} (h : RdR w Bd A ps) : VsR w Bd ps := fun p hp => by
  obtain ⟨i, hi, rfl⟩ := mem_getD hp
  obtain ⟨b, off, _, _, hc⟩ := h (by omega)
  exact (hc i hi).2
theorem VsR.at_ {w : World} {Bd : Nat} {ps : List Pp} (h : VsR w Bd ps) (i : Nat) (hi : i < ps.length) : Rd w Bd (ps.getD i zP).A (ps.getD i zP).r.vs := h _ (getD_mem hi)
theorem VsR.on {w w' : World} {ps : List Pp} (h : VsR w w.heap.size ps) (hb : Below w.heap.size w w') : VsR w' w'.heap.size ps := fun p hp => ((h p hp).below hb).more hb.size
theorem RdR.reads {w : World} {Bd : Nat} {A : Option Addr} {ps : List Pp} (h : RdR w Bd A ps) : Reads w Bd 4 A ps.length (pcells ps) := by
  refine ⟨pcells_len ps, fun hn => ?_⟩
  obtain ⟨b, off, rfl, hb, hc⟩ := h hn
  refine ⟨_, rfl, hb, fun j u hu => ?_⟩
  have hj : j < (pcells ps).length := (List.getElem?_eq_some_iff.1 hu).1
  rw [pcells_len] at hj
  have hadd : (⟨b, off, none⟩ : Addr).add j = ⟨b, off + j, none⟩ := by unfold Addr.add; split <;> simp_all
  rw [hadd]
  have hi : j / 4 < ps.length := by omega
  obtain ⟨⟨h0, h1, h2, h3⟩, _⟩ := hc (j / 4) hi
  have hp := pcells_at ps (j / 4) (j % 4) hi (Nat.mod_lt _ (by omega))
  have e : j / 4 * 4 + j % 4 = j := by omega
  rw [e, hu] at hp
  rcases (by omega : j % 4 = 0 ∨ j % 4 = 1 ∨ j % 4 = 2 ∨ j % 4 = 3) with e1 | e1 | e1 | e1
  · rw [show off + j = off + j / 4 * 4 + 0 by omega]; rw [e1] at hp; exact h0.trans hp.symm
  · rw [show off + j = off + j / 4 * 4 + 1 by omega]; rw [e1] at hp; exact h1.trans hp.symm
  · rw [show off + j = off + j / 4 * 4 + 2 by omega]; rw [e1] at hp; exact h2.trans hp.symm
  · rw [show off + j = off + j / 4 * 4 + 3 by omega]; rw [e1] at hp; exact h3.trans hp.symm
theorem RdR.take_ {w : World} {Bd : Nat} {A : Option Addr} {ps : List Pp} (h : RdR w Bd A ps) (k : Nat) (hk : k ≤ ps.length) : RdR w Bd A (ps.take k) := fun hn => by
  rw [List.length_take] at hn
  obtain ⟨b, off, rfl, hb, hc⟩ := h (by omega)
  refine ⟨b, off, rfl, hb, fun i hi => ?_⟩
  rw [List.length_take] at hi
  have e : (ps.take k).getD i zP = ps.getD i zP := by
    simp only [List.getD]
    rw [List.getElem?_take_of_lt (by omega)]
  rw [e]
  exact hc i (by omega)
theorem RdR.drop_ {w : World} {Bd b off : Nat} {ps : List Pp} (h : RdR w Bd (some ⟨b, off, none⟩) ps) (k : Nat) : RdR w Bd (some ⟨b, off + k * 4, none⟩) (ps.drop k) := fun hn => by
  rw [List.length_drop] at hn
  obtain ⟨b', off', e, hb, hc⟩ := h (by omega)
  injection e with e
  injection e with e1 e2
  subst e1 e2
  refine ⟨b, off + k * 4, rfl, hb, fun i hi => ?_⟩
  rw [List.length_drop] at hi
  have e : (ps.drop k).getD i zP = ps.getD (k + i) zP := by
    simp only [List.getD]
    rw [List.getElem?_drop]
  rw [e]
  have := hc (k + i) (by omega)
  simp only [show ∀ j, off + k * 4 + i * 4 + j = off + (k + i) * 4 + j from fun j => by omega]
  exact this
/-- Reports with p put at place k. -/
def insR (ps : List Pp) (k : Nat) (p : Pp) : List Pp := ps.take k ++ p :: ps.drop k
theorem insR_len (ps : List Pp) (k : Nat) (p : Pp) (h : k ≤ ps.length) : (insR ps k p).length = k + 1 + (ps.length - k) := by simp [insR]; omega
theorem insR_mem {ps : List Pp} {k : Nat} {p q : Pp} (h : q ∈ insR ps k p) : q = p ∨ q ∈ ps := by
  unfold insR at h
  rw [List.mem_append, List.mem_cons] at h
  rcases h with h | h | h
  · exact .inr (List.mem_of_mem_take h)
  · exact .inl h
  · exact .inr (List.mem_of_mem_drop h)
/-- The place of a sender: all before it are less. -/
def PlR (ps : List Pp) (f : Int) (k : Nat) : Prop := k ≤ ps.length ∧ (∀ j, j < k → (ps.getD j zP).r.f < f) ∧ (k < ps.length → ¬ (ps.getD k zP).r.f < f)
/-- The sender is there already. -/
def hasF (ps : List Pp) (f : Int) (k : Nat) : Bool := decide (k < ps.length) && ((ps.getD k zP).r.f == f)
def placeR : List Pp → Int → Nat
  | [], _ => 0
  | p :: ps, f => if p.r.f < f then placeR ps f + 1 else 0
theorem placeR_pl : ∀ (ps : List Pp) (f : Int), PlR ps f (placeR ps f)
  | [], f => ⟨by simp [placeR], fun j hj => by simp [placeR] at hj, fun h => by simp at h⟩
  | p :: ps, f => by
    obtain ⟨h1, h2, h3⟩ := placeR_pl ps f
    by_cases h : p.r.f < f
    · have e : placeR (p :: ps) f = placeR ps f + 1 := by simp [placeR, h]
      rw [e]
      refine ⟨by simp; omega, fun j hj => ?_, fun hk => ?_⟩
      · rcases j with _ | j
        · simpa using h
        · simpa using h2 j (by omega)
      · simpa using h3 (by simpa using hk)
    · have e : placeR (p :: ps) f = 0 := by simp [placeR, h]
      rw [e]
      exact ⟨by simp, fun j hj => by omega, fun _ => by simpa using h⟩
theorem own_emptyN (w : World) (t : TypeId) (s : Nat) (hs : 0 < s) : (w.alloc (.cells #[] t)).ownsRow w.heap.size t s (.slice (some ⟨w.heap.size, 0, none⟩) 0 0) 0 [] :=
  ⟨by simp, .inr ⟨w.heap.size, 0, #[], rfl, Nat.le_refl _, heap_alloc_new w _, Nat.le_refl _, by decide, by simp, by simp⟩⟩
theorem own_emptyN2 (w : World) (t : TypeId) (s : Nat) (hs : 0 < s) (O : Obj) : ((w.alloc O).alloc (.cells #[] t)).ownsRow (w.heap.size + 1) t s (.slice (some ⟨w.heap.size + 1, 0, none⟩) 0 0) 0 [] := by
  have h := own_emptyN (w.alloc O) t s hs
  simpa using h
theorem formA {w : World} {base e size n : Nat} {v : Value} {xs : List Value} (h : w.ownsRow base e size v n xs) : ∃ A c, v = .slice A n c ∧ n ≤ c := by
  obtain ⟨_, ⟨rfl, rfl⟩ | ⟨g, cap, cur, rfl, _, _, h4, _⟩⟩ := h
  · exact ⟨_, _, rfl, Nat.le_refl _⟩
  · exact ⟨_, _, rfl, h4⟩
theorem ne_some {a b : Nat} (h : a ≠ b) : some a ≠ some b := fun e => h (by injection e)
theorem ne_lowN {w : World} {b e s n g : Nat} {v : Value} {xs : List Value} (h : w.ownsRow b e s v n xs) (hg : g < b) : v.ownBlock ≠ some g := fun e => by have := (h.lt _ e).1; omega
theorem sz_a (W : World) (O : Obj) : W.heap.size ≤ (W.alloc O).heap.size := by simp
theorem sz_d (W : World) (O : Obj) : W.heap.size ≤ ((W.alloc O).drew).heap.size := sz_a W O
theorem sz_d2 (W : World) (O L : Obj) : W.heap.size ≤ (((W.alloc O).alloc L).drew).heap.size := Nat.le_trans (sz_a W O) (sz_a (W.alloc O) L)
theorem blk_new1 (W : World) (L : Obj) (t : TypeId) (cs : Array Value) : Blk ((W.alloc L).alloc (.cells cs t)) (W.heap.size + 1) t cs := by
  have h := Blk.new (W.alloc L) t cs
  simpa using h
theorem blk_rep {w : World} {g : Nat} {t : TypeId} {p : Pp} (h : Blk w g t #[.int .i64 p.r.f, .int .i64 p.r.v, .int .i64 p.r.x, .slice p.A p.r.vs.length p.c]) : Reads w w.heap.size 4 (some ⟨g, 0, none⟩) 1 (pc1 p) := by
  refine ⟨by simp [pc1], fun _ => ⟨_, rfl, h.lt, fun j u hu => ?_⟩⟩
  have hadd : (⟨g, 0, none⟩ : Addr).add j = ⟨g, j, none⟩ := by unfold Addr.add; split <;> simp_all
  rw [hadd, h.cell]
  simpa [pc1] using hu
theorem pc1_one (p : Pp) : ∀ u ∈ pc1 p, u.oneCell' = true := by
  intro u hu
  simp only [pc1, List.mem_cons, List.not_mem_nil, or_false] at hu
  rcases hu with h | h | h | h <;> subst h <;> rfl
theorem own_reps {w : World} {BB k : Nat} {t : TypeId} {v : Value} {ps : List Pp} {p : Pp} (h : w.ownsRow BB t 4 v (0 + k + 1) ([] ++ pcells ps ++ pc1 p)) : w.ownsRow BB t 4 v (k + 1) (pcells (ps ++ [p])) := by
  rw [pcells_app]
  have : pcells [p] = pc1 p := by simp [pcells]
  rw [this]
  simpa using h
theorem own_insR {w : World} {BB k m : Nat} {t : TypeId} {v : Value} {ps : List Pp} {p : Pp} (h : w.ownsRow BB t 4 v (k + 1 + m) (pcells (ps.take k ++ [p]) ++ pcells (ps.drop k))) (hl : (insR ps k p).length = k + 1 + m) : w.ownsRow BB t 4 v (insR ps k p).length (pcells (insR ps k p)) := by
  rw [hl]
  have e : insR ps k p = (ps.take k ++ [p]) ++ ps.drop k := by simp [insR]
  rw [e, pcells_app]
  exact h
end Go.Proofs.Ytcfjmhebhhekbaa.B
