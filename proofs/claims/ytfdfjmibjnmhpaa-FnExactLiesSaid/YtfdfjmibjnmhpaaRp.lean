/-
  Reports in memory: slices of reports, each with a slice of votes, and how they read. No statement is proved here.
-/
import Derived.Test.YtfdfjmibjnmhpaaBal3
set_option linter.unusedVariables false
set_option maxRecDepth 100000
namespace Go.Proofs.Ytfdfjmibjnmhpaa.B
open Go.RowKit

/-- A report as data. -/
structure Rp where
  f : Int
  v : Int
  x : Int
  vs : List (Int × Int)
/-- A report, and where its votes lie. -/
structure Pp where
  r : Rp
  A : Option Addr
  c : Nat
def zR : Rp := ⟨0, 0, 0, []⟩
def zP : Pp := ⟨zR, none, 0⟩
instance : Inhabited Pp := ⟨zP⟩
def rl (ps : List Pp) : List Rp := ps.map Pp.r
theorem rl_len (ps : List Pp) : (rl ps).length = ps.length := by simp [rl]
theorem rl_at (ps : List Pp) (k : Nat) : (rl ps).getD k zR = (ps.getD k zP).r := by
  simp only [rl, List.getD_eq_getElem?_getD, List.getElem?_map]
  cases ps[k]? <;> rfl
/-- The four cells of the report that lies as p. -/
def four (at_ : Nat → Option Value) (p : Pp) : Prop :=
  at_ 0 = some (.int .i64 p.r.f) ∧ at_ 1 = some (.int .i64 p.r.v) ∧ at_ 2 = some (.int .i64 p.r.x) ∧ at_ 3 = some (.slice p.A p.r.vs.length p.c)

/-- A slice value at address A reads, below block Bd, as the reports ps. -/
def RdR (w : World) (Bd : Nat) (A : Option Addr) (ps : List Pp) : Prop :=
  0 < ps.length → ∃ b off, A = some ⟨b, off, none⟩ ∧ b < Bd ∧ ∀ i, i < ps.length → four (fun j => w.cell? ⟨b, off + i * 4 + j, none⟩) (ps.getD i zP) ∧ Rd w Bd (ps.getD i zP).A (ps.getD i zP).r.vs
section
variable {w w' : World} {Bd Bd' : Nat} {A : Option Addr} {ps : List Pp}
theorem RdR.keep (h : RdR w Bd A ps) (hk : ∀ b o, b < Bd → w'.cell? ⟨b, o, none⟩ = w.cell? ⟨b, o, none⟩) : RdR w' Bd A ps := fun hn => by
  obtain ⟨b, off, e, hb, hc⟩ := h hn
  refine ⟨b, off, e, hb, fun i hi => ⟨?_, (hc i hi).2.keep hk⟩⟩
  have h4 := (hc i hi).1
  unfold four at *
  simp only [hk b _ hb]
  exact h4
theorem RdR.more (h : RdR w Bd A ps) (hB : Bd ≤ Bd') : RdR w Bd' A ps := fun hn => by
  obtain ⟨b, off, e, hb, hc⟩ := h hn
  exact ⟨b, off, e, by omega, fun i hi => ⟨(hc i hi).1, (hc i hi).2.more hB⟩⟩
theorem RdR.below (h : RdR w Bd A ps) (hb : Below Bd w w') : RdR w' Bd A ps := h.keep fun _ _ hp => hb.cell hp
theorem RdR.alloc (h : RdR w Bd A ps) (hB : Bd ≤ w.heap.size) (o : Obj) : RdR (w.alloc o) Bd A ps := h.keep fun b o' hp => World.cell?_alloc_lt w o ⟨b, o', none⟩ (by simpa using (show b < w.heap.size by omega))
theorem RdR.on (h : RdR w w.heap.size A ps) (hb : Below w.heap.size w w') : RdR w' w'.heap.size A ps := (h.below hb).more hb.size
theorem RdR.up (h : RdR w w.heap.size A ps) (O : Obj) : RdR (w.alloc O) (w.alloc O).heap.size A ps := (h.alloc (Nat.le_refl _) O).more (by simp)
theorem RdR.dr (h : RdR w w.heap.size A ps) : RdR w.drew w.drew.heap.size A ps := h
theorem RdR.nil_ : RdR w Bd A [] := fun h => absurd h (by simp)
theorem RdR.at_ (h : RdR w Bd A ps) {k : Nat} (hk : k < ps.length) : ∃ b off, A = some ⟨b, off, none⟩ ∧ b < Bd ∧ w.cell? ⟨b, off + k * 4, none⟩ = some (.int .i64 (ps.getD k zP).r.f) ∧ w.cell? ⟨b, off + k * 4 + 1, none⟩ = some (.int .i64 (ps.getD k zP).r.v) ∧ w.cell? ⟨b, off + k * 4 + 2, none⟩ = some (.int .i64 (ps.getD k zP).r.x) ∧ w.cell? ⟨b, off + k * 4 + 3, none⟩ = some (.slice (ps.getD k zP).A (ps.getD k zP).r.vs.length (ps.getD k zP).c) ∧ Rd w Bd (ps.getD k zP).A (ps.getD k zP).r.vs := by
  obtain ⟨b, off, rfl, hb, hc⟩ := h (by omega)
  obtain ⟨⟨h0, h1, h2, h3⟩, h4⟩ := hc k hk
  exact ⟨b, off, rfl, hb, h0, h1, h2, h3, h4⟩
end

/-- The first k reports of ps stand in the cells cs, which has room for n. -/
def PCR (cs : Array Value) (ps : List Pp) (n k : Nat) : Prop := cs.size = n * 4 ∧ ∀ i, i < k → four (fun j => cs[i * 4 + j]?) (ps.getD i zP)
theorem PCR.zero {cs : Array Value} {ps : List Pp} {n : Nat} (h : cs.size = n * 4) : PCR cs ps n 0 := ⟨h, fun i hi => absurd hi (by omega)⟩
theorem getD_app_lt {α : Type} {l m : List α} {z : α} {i : Nat} (h : i < l.length) : (l ++ m).getD i z = l.getD i z := by
  simp [List.getD_eq_getElem?_getD, List.getElem?_append_left h]
theorem getD_app_end {α : Type} {l : List α} {u z : α} {k : Nat} (h : l.length = k) : (l ++ [u]).getD k z = u := by
  subst h; simp [List.getD_eq_getElem?_getD]
theorem fourSet {cs : Array Value} {k : Nat} {a b c d : Value} (hs : k * 4 + 3 < cs.size) (i j : Nat) (hj : j < 4) :
    ((((cs.setIfInBounds (k * 4) a).setIfInBounds (k * 4 + 1) b).setIfInBounds (k * 4 + 2) c).setIfInBounds (k * 4 + 3) d)[i * 4 + j]? = if i = k then (if j = 0 then some a else if j = 1 then some b else if j = 2 then some c else some d) else cs[i * 4 + j]? := by
  by_cases e : i = k
  · subst e
    rw [if_pos rfl]
    rcases (by omega : j = 0 ∨ j = 1 ∨ j = 2 ∨ j = 3) with rfl | rfl | rfl | rfl
    · rw [Array.getElem?_setIfInBounds_ne (by omega), Array.getElem?_setIfInBounds_ne (by omega), Array.getElem?_setIfInBounds_ne (by omega)]
      simp only [Nat.add_zero]
      rw [Array.getElem?_setIfInBounds_self_of_lt (by omega)]; rfl
    · rw [Array.getElem?_setIfInBounds_ne (by omega), Array.getElem?_setIfInBounds_ne (by omega), Array.getElem?_setIfInBounds_self_of_lt (by simp; omega)]; rfl
    · rw [Array.getElem?_setIfInBounds_ne (by omega), Array.getElem?_setIfInBounds_self_of_lt (by simp; omega)]; rfl
    · rw [Array.getElem?_setIfInBounds_self_of_lt (by simp; omega)]; rfl
  · rw [if_neg e, Array.getElem?_setIfInBounds_ne (by omega), Array.getElem?_setIfInBounds_ne (by omega), Array.getElem?_setIfInBounds_ne (by omega), Array.getElem?_setIfInBounds_ne (by omega)]
theorem PCR.step {cs : Array Value} {qs : List Pp} {n k : Nat} (h : PCR cs qs n k) (hk : k < n) (hq : qs.length = k) (u : Pp) :
    PCR ((((cs.setIfInBounds (k * 4) (.int .i64 u.r.f)).setIfInBounds (k * 4 + 1) (.int .i64 u.r.v)).setIfInBounds (k * 4 + 2) (.int .i64 u.r.x)).setIfInBounds (k * 4 + 3) (.slice u.A u.r.vs.length u.c)) (qs ++ [u]) n (k + 1) := by
  refine ⟨by simpa using h.1, fun i hi => ?_⟩
  have hs := h.1
  have hz : k * 4 + 3 < cs.size := by omega
  by_cases e : i = k
  · subst e
    rw [getD_app_end hq]
    exact ⟨(fourSet hz i 0 (by omega)).trans (by simp), (fourSet hz i 1 (by omega)).trans (by simp), (fourSet hz i 2 (by omega)).trans (by simp), (fourSet hz i 3 (by omega)).trans (by simp)⟩
  · rw [getD_app_lt (by omega)]
    obtain ⟨h0, h1, h2, h3⟩ := h.2 i (by omega)
    exact ⟨(fourSet hz i 0 (by omega)).trans (by rw [if_neg e]; exact h0), (fourSet hz i 1 (by omega)).trans (by rw [if_neg e]; exact h1), (fourSet hz i 2 (by omega)).trans (by rw [if_neg e]; exact h2), (fourSet hz i 3 (by omega)).trans (by rw [if_neg e]; exact h3)⟩

/-- The votes of the reports qs, in blocks of their own from lo on, one behind the other. -/
def Vb (w : World) (t : TypeId) (lo : Nat) (qs : List Pp) : Prop :=
  ∃ gs : Nat → Nat, (∀ i, i < qs.length → lo ≤ gs i ∧ (qs.getD i zP).A = some ⟨gs i, 0, none⟩ ∧ (qs.getD i zP).c = (qs.getD i zP).r.vs.length ∧ ∃ cs, Blk w (gs i) t cs ∧ PC cs (qs.getD i zP).r.vs (qs.getD i zP).r.vs.length) ∧ (∀ i j, i < j → j < qs.length → gs i < gs j)
theorem Vb.nil_ {w : World} {t : TypeId} {lo : Nat} : Vb w t lo [] := ⟨fun _ => 0, fun i hi => absurd hi (by simp), fun i j _ hj => absurd hj (by simp)⟩
theorem Vb.keep {w w' : World} {t : TypeId} {lo : Nat} {qs : List Pp} (h : Vb w t lo qs) (hk : ∀ g, lo ≤ g → g < w.heap.size → w'.heap[g]? = w.heap[g]?) : Vb w' t lo qs := by
  obtain ⟨gs, h1, h2⟩ := h
  refine ⟨gs, fun i hi => ?_, h2⟩
  obtain ⟨a1, a2, a3, cs, a4, a5⟩ := h1 i hi
  exact ⟨a1, a2, a3, cs, (hk _ a1 a4.lt).trans a4, a5⟩
theorem Vb.on {w w' : World} {t : TypeId} {lo : Nat} {qs : List Pp} (h : Vb w t lo qs) (hb : Below w.heap.size w w') : Vb w' t lo qs := h.keep fun g _ hg => hb.block g hg
theorem Vb.set_ {w : World} {t : TypeId} {lo : Nat} {qs : List Pp} (h : Vb w t lo qs) {p : Addr} (hp : p.block < lo) (u : Value) : Vb (w.setCell p u) t lo qs := h.keep fun g hg _ => Below.heap_setCell w p u g (by omega)
theorem Vb.step {w : World} {t : TypeId} {lo : Nat} {qs : List Pp} {Bd g : Nat} {r : Rp} {cs : Array Value} (h : Vb w t lo qs) (hB : lo ≤ g) (hlt : ∀ i, i < qs.length → ∀ b, (qs.getD i zP).A = some ⟨b, 0, none⟩ → b < g) (hb : Blk w g t cs) (hc : PC cs r.vs r.vs.length) :
    Vb w t lo (qs ++ [⟨r, some ⟨g, 0, none⟩, r.vs.length⟩]) := by
  obtain ⟨gs, h1, h2⟩ := h
  refine ⟨fun i => if i < qs.length then gs i else g, fun i hi => ?_, fun i j hij hj => ?_⟩
  · simp only [List.length_append, List.length_cons, List.length_nil] at hi
    by_cases hl : i < qs.length
    · simp only [if_pos hl]
      rw [getD_app_lt hl]
      exact h1 i hl
    · simp only [if_neg hl]
      have e : (qs ++ [(⟨r, some ⟨g, 0, none⟩, r.vs.length⟩ : Pp)]).getD i zP = ⟨r, some ⟨g, 0, none⟩, r.vs.length⟩ := getD_app_end (by omega)
      rw [e]
      exact ⟨hB, rfl, rfl, cs, hb, hc⟩
  · simp only [List.length_append, List.length_cons, List.length_nil] at hj
    show (if i < qs.length then gs i else g) < (if j < qs.length then gs j else g)
    rw [if_pos (show i < qs.length by omega)]
    by_cases hl : j < qs.length
    · rw [if_pos hl]; exact h2 i j hij hl
    · rw [if_neg hl]
      exact hlt i (by omega) _ (h1 i (by omega)).2.1
theorem Vb.rd {w : World} {t : TypeId} {lo : Nat} {qs : List Pp} (h : Vb w t lo qs) {i : Nat} (hi : i < qs.length) : Rd w w.heap.size (qs.getD i zP).A (qs.getD i zP).r.vs := by
  obtain ⟨gs, h1, h2⟩ := h
  obtain ⟨a1, a2, a3, cs, a4, a5⟩ := h1 i hi
  rw [a2]
  exact a5.rd a4 a4.lt
theorem Vb.lt {w : World} {t : TypeId} {lo : Nat} {qs : List Pp} (h : Vb w t lo qs) {i : Nat} (hi : i < qs.length) (b : Nat) (e : (qs.getD i zP).A = some ⟨b, 0, none⟩) : b < w.heap.size := by
  obtain ⟨gs, h1, h2⟩ := h
  obtain ⟨a1, a2, a3, cs, a4, a5⟩ := h1 i hi
  rw [a2] at e
  injection e with e
  injection e with e
  subst e
  exact a4.lt
theorem take_getD {α : Type} (l : List α) (z : α) (k : Nat) (h : k < l.length) : l.take (k + 1) = l.take k ++ [l.getD k z] := by
  rw [List.take_succ_eq_append_getElem h]
  simp [List.getD_eq_getElem?_getD, List.getElem?_eq_getElem h]
theorem PCR.rd {w : World} {t tv : TypeId} {g lo n : Nat} {cs : Array Value} {qs : List Pp} (h : PCR cs qs n n) (hq : qs.length = n) (hb : Blk w g t cs) (hv : Vb w tv lo qs) : RdR w w.heap.size (some ⟨g, 0, none⟩) qs :=
  fun _ => ⟨g, 0, rfl, hb.lt, fun i hi => ⟨by
    have := h.2 i (by omega)
    simp only [Nat.zero_add, hb.cell]
    exact this, hv.rd hi⟩⟩
end Go.Proofs.Ytfdfjmibjnmhpaa.B
