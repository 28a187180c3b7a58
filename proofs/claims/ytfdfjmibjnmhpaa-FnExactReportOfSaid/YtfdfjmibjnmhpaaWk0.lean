/-
  What marks leave of rows that are a copy's own: blocks from lo to hi keep their sizes and their slices, nothing else turns. Generic; no statement is proved here.
-/
import Derived.Test.YtfdfjmibjnmhpaaHd
set_option linter.unusedVariables false
set_option maxRecDepth 100000
namespace Go.Proofs.Ytfdfjmibjnmhpaa.B
open Go.RowKit
/-- A slice, or nothing. -/
def sl : Option Value → Option Value
  | some (.slice A n c) => some (.slice A n c)
  | _ => none
theorem sl_of {o : Option Value} {A : Option Addr} {n c : Nat} (h : sl o = some (.slice A n c)) : o = some (.slice A n c) := by
  unfold sl at h
  split at h
  · exact h
  · cases h
structure Sh (lo hi : Nat) (w w' : World) : Prop where
  os : w'.os = w.os
  tape : w'.tape = w.tape
  output : w'.output = w.output
  size : w.heap.size ≤ w'.heap.size
  block : ∀ k, k < w.heap.size → k < lo ∨ hi ≤ k → w'.heap[k]? = w.heap[k]?
  row : ∀ g t cs, lo ≤ g → g < hi → Blk w g t cs → ∃ cs', Blk w' g t cs' ∧ cs'.size = cs.size ∧ ∀ i : Nat, sl cs'[i]? = sl cs[i]?
section
variable {lo hi : Nat} {a b c w w' : World}
theorem Sh.refl (lo hi : Nat) (w : World) : Sh lo hi w w := ⟨rfl, rfl, rfl, Nat.le_refl _, fun _ _ _ => rfl, fun g t cs _ _ h => ⟨cs, h, rfl, fun _ => rfl⟩⟩
theorem Sh.trans (h : Sh lo hi a b) (k : Sh lo hi b c) : Sh lo hi a c :=
  ⟨k.os.trans h.os, k.tape.trans h.tape, k.output.trans h.output, Nat.le_trans h.size k.size, fun i hi' hne => (k.block i (Nat.lt_of_lt_of_le hi' h.size) hne).trans (h.block i hi' hne), fun g t cs h1 h2 hb => by
    obtain ⟨cs1, b1, z1, s1⟩ := h.row g t cs h1 h2 hb
    obtain ⟨cs2, b2, z2, s2⟩ := k.row g t cs1 h1 h2 b1
    exact ⟨cs2, b2, z2.trans z1, fun i => (s2 i).trans (s1 i)⟩⟩
theorem Sh.put {g i : Nat} {t : TypeId} {cs : Array Value} (h : Sh lo hi a w) (h1 : lo ≤ g) (h2 : g < hi) (hb : Blk a g t cs) (hn : sl cs[i]? = none) (u : Value) (hu : sl (some u) = none) : Sh lo hi a (w.setCell ⟨g, i, none⟩ u) :=
  ⟨h.os, h.tape, h.output, by simpa [World.setCell] using h.size, fun k hk hne => (Below.heap_setCell w ⟨g, i, none⟩ u k (by intro e; have e2 : k = g := e; omega)).trans (h.block k hk hne), fun g' t' cs' k1 k2 hb' => by
    obtain ⟨cs2, b2, z2, s2⟩ := h.row g' t' cs' k1 k2 hb'
    by_cases e : g' = g
    · subst e
      have e2 : cs' = cs := by
        have e3 := hb'.symm.trans hb
        injection e3 with e3
        injection e3
      subst e2
      refine ⟨cs2.setIfInBounds i u, b2.set_ i u, by simpa using z2, fun j => ?_⟩
      by_cases ej : j = i
      · subst ej
        by_cases hlt : j < cs2.size
        · rw [Array.getElem?_setIfInBounds_self_of_lt hlt, hu, hn]
        · rw [Array.getElem?_eq_none (by simp; omega), hn]; rfl
      · rw [Array.getElem?_setIfInBounds_ne (by omega)]; exact s2 j
    · exact ⟨cs2, b2.far (p := ⟨g, i, none⟩) e u, z2, s2⟩⟩
theorem Sh.on (h : Sh lo hi a w) (hb : Below w.heap.size w w') (hh : hi ≤ a.heap.size) : Sh lo hi a w' :=
  ⟨hb.os.trans h.os, hb.tape.trans h.tape, hb.output.trans h.output, Nat.le_trans h.size hb.size, fun k hk hne => (hb.block k (Nat.lt_of_lt_of_le hk h.size)).trans (h.block k hk hne), fun g t cs h1 h2 h3 => by
    obtain ⟨cs1, b1, r⟩ := h.row g t cs h1 h2 h3
    exact ⟨cs1, b1.on hb, r⟩⟩
theorem Sh.below {Bd : Nat} (h : Sh lo hi w w') (hl : Bd ≤ lo) (hz : Bd ≤ w.heap.size) : Below Bd w w' := ⟨h.os, h.tape, h.output, h.size, fun k hk => h.block k (by omega) (.inl (by omega))⟩
theorem Blk.sh {g : Nat} {t : TypeId} {cs : Array Value} (h : Blk w g t cs) (hs : Sh lo hi w w') (hne : g < lo ∨ hi ≤ g) : Blk w' g t cs := (hs.block g h.lt hne).trans h
end
/-- A row of numbers in a block between lo and hi. -/
def Leaf (s lo hi : Nat) (w : World) (A : Option Addr) (n : Nat) : Prop :=
  0 < n → ∃ (t : TypeId) (g : Nat) (cs : Array Value), A = some ⟨g, 0, none⟩ ∧ lo ≤ g ∧ g < hi ∧ Blk w g t cs ∧ n * s ≤ cs.size ∧ ∀ i, i < n * s → sl cs[i]? = none
theorem Leaf.sh {s lo hi n : Nat} {w w' : World} {A : Option Addr} (h : Leaf s lo hi w A n) (hs : Sh lo hi w w') : Leaf s lo hi w' A n := fun h0 => by
  obtain ⟨t, g, cs, e, h1, h2, hb, hz, hn⟩ := h h0
  obtain ⟨cs1, b1, z1, s1⟩ := hs.row g t cs h1 h2 hb
  exact ⟨t, g, cs1, e, h1, h2, b1, by omega, fun i hi => (s1 i).trans (hn i hi)⟩
abbrev Elt := World → Array Value → Nat → Nat → Prop
def Stab (lo hi : Nat) (E : Elt) : Prop := ∀ (w w' : World) (cs cs' : Array Value) (o m : Nat), Sh lo hi w w' → (∀ i : Nat, sl cs'[i]? = sl cs[i]?) → E w cs o m → E w' cs' o m
/-- A row of elements with parts, in a block between lo and hi; f: how much each holds. -/
def RowE (s : Nat) (E : Elt) (lo hi : Nat) (w : World) (A : Option Addr) (n : Nat) (f : Nat → Nat) : Prop :=
  0 < n → ∃ (t : TypeId) (g : Nat) (cs : Array Value), A = some ⟨g, 0, none⟩ ∧ lo ≤ g ∧ g < hi ∧ Blk w g t cs ∧ n * s ≤ cs.size ∧ ∀ i, i < n → E w cs (i * s) (f i)
theorem RowE.sh {s lo hi n : Nat} {E : Elt} {w w' : World} {A : Option Addr} {f : Nat → Nat} (hE : Stab lo hi E) (h : RowE s E lo hi w A n f) (hs : Sh lo hi w w') : RowE s E lo hi w' A n f := fun h0 => by
  obtain ⟨t, g, cs, e, h1, h2, hb, hz, hn⟩ := h h0
  obtain ⟨cs1, b1, z1, s1⟩ := hs.row g t cs h1 h2 hb
  exact ⟨t, g, cs1, e, h1, h2, b1, by omega, fun i hi => hE _ _ _ _ _ _ hs s1 (hn i hi)⟩
def sm (f : Nat → Nat) : Nat → Nat
  | 0 => 0
  | k + 1 => sm f k + f k
theorem sm_mono (f : Nat → Nat) {i j : Nat} (h : i ≤ j) : sm f i ≤ sm f j := by
  induction j with
  | zero => obtain rfl : i = 0 := by omega
            exact Nat.le_refl _
  | succ j ih =>
    by_cases e : i = j + 1
    · subst e; exact Nat.le_refl _
    · have := ih (by omega)
      simp only [sm]; omega
theorem sm_step (f : Nat → Nat) {i j : Nat} (h : i < j) : sm f i + f i ≤ sm f j := sm_mono f (show i + 1 ≤ j by omega)
def SlAt (cs : Array Value) (o : Nat) (P : Option Addr → Nat → Prop) : Prop := ∃ B k c, cs[o]? = some (.slice B k c) ∧ k ≤ 1048576 ∧ P B k
theorem SlAt.mono {cs cs' : Array Value} {o : Nat} {P P' : Option Addr → Nat → Prop} (h : SlAt cs o P) (hs : ∀ i : Nat, sl cs'[i]? = sl cs[i]?) (hp : ∀ B k, P B k → P' B k) : SlAt cs' o P' := by
  obtain ⟨B, k, c, e, hk, h⟩ := h
  exact ⟨B, k, c, sl_of (by rw [hs, e]; rfl), hk, hp B k h⟩
/-- Some first cells that hold no slice. -/
def Bare (cs : Array Value) (o n : Nat) : Prop := ∀ j, j < n → sl cs[o + j]? = none
theorem Bare.mono {cs cs' : Array Value} {o n : Nat} (h : Bare cs o n) (hs : ∀ i : Nat, sl cs'[i]? = sl cs[i]?) : Bare cs' o n := fun j hj => (hs _).trans (h j hj)
def EMsg (lo hi : Nat) : Elt := fun w cs o m => Bare cs o 5 ∧ SlAt cs (o + 5) fun B k => Leaf 2 lo hi w B k ∧ k ≤ m
theorem EMsg.stab {lo hi : Nat} : Stab lo hi (EMsg lo hi) := fun _ _ _ _ _ _ hS hs h => ⟨h.1.mono hs, h.2.mono hs fun _ _ p => ⟨p.1.sh hS, p.2⟩⟩
def EReport (lo hi : Nat) : Elt := fun w cs o m => Bare cs o 3 ∧ SlAt cs (o + 3) fun B k => Leaf 2 lo hi w B k ∧ k ≤ m
theorem EReport.stab {lo hi : Nat} : Stab lo hi (EReport lo hi) := fun _ _ _ _ _ _ hS hs h => ⟨h.1.mono hs, h.2.mono hs fun _ _ p => ⟨p.1.sh hS, p.2⟩⟩
def ELink (lo hi : Nat) : Elt := fun w cs o m => SlAt cs o fun B k => ∃ f, RowE 6 (EMsg lo hi) lo hi w B k f ∧ k + sm f k ≤ m
theorem ELink.stab {lo hi : Nat} : Stab lo hi (ELink lo hi) := fun _ _ _ _ _ _ hS hs h => h.mono hs fun _ _ ⟨f, p, q⟩ => ⟨f, p.sh EMsg.stab hS, q⟩
def EHeard (lo hi : Nat) : Elt := fun w cs o m => Bare cs o 1 ∧ SlAt cs (o + 1) fun B k => ∃ f, RowE 4 (EReport lo hi) lo hi w B k f ∧ k + sm f k ≤ m
theorem EHeard.stab {lo hi : Nat} : Stab lo hi (EHeard lo hi) := fun _ _ _ _ _ _ hS hs h => ⟨h.1.mono hs, h.2.mono hs fun _ _ ⟨f, p, q⟩ => ⟨f, p.sh EReport.stab hS, q⟩⟩
/-- The parts of a replica's state: how much each holds at most. -/
structure ERp (lo hi : Nat) (w : World) (cs : Array Value) (o m0 m1 m2 m3 m4 m5 : Nat) : Prop where
  s0 : Bare cs o 5
  s1 : Bare cs (o + 6) 3
  v : SlAt cs (o + 5) fun B k => Leaf 2 lo hi w B k ∧ k ≤ m0
  p : SlAt cs (o + 9) fun B k => Leaf 3 lo hi w B k ∧ k ≤ m1
  q : SlAt cs (o + 10) fun B k => Leaf 3 lo hi w B k ∧ k ≤ m2
  r : SlAt cs (o + 11) fun B k => Leaf 3 lo hi w B k ∧ k ≤ m3
  d : SlAt cs (o + 12) fun B k => Leaf 3 lo hi w B k ∧ k ≤ m4
  h : SlAt cs (o + 13) fun B k => ∃ f, RowE 2 (EHeard lo hi) lo hi w B k f ∧ k + sm f k ≤ m5
def ERep (lo hi : Nat) : Elt := fun w cs o m => ∃ m0 m1 m2 m3 m4 m5, ERp lo hi w cs o m0 m1 m2 m3 m4 m5 ∧ m0 + m1 + m2 + m3 + m4 + m5 ≤ m
theorem ERp.stab {lo hi : Nat} {w w' : World} {cs cs' : Array Value} {o m0 m1 m2 m3 m4 m5 : Nat} (h : ERp lo hi w cs o m0 m1 m2 m3 m4 m5) (hS : Sh lo hi w w') (hs : ∀ i : Nat, sl cs'[i]? = sl cs[i]?) : ERp lo hi w' cs' o m0 m1 m2 m3 m4 m5 :=
  ⟨h.s0.mono hs, h.s1.mono hs, h.v.mono hs fun _ _ p => ⟨p.1.sh hS, p.2⟩, h.p.mono hs fun _ _ p => ⟨p.1.sh hS, p.2⟩, h.q.mono hs fun _ _ p => ⟨p.1.sh hS, p.2⟩, h.r.mono hs fun _ _ p => ⟨p.1.sh hS, p.2⟩, h.d.mono hs fun _ _ p => ⟨p.1.sh hS, p.2⟩, h.h.mono hs fun _ _ ⟨f, p, q⟩ => ⟨f, p.sh EHeard.stab hS, q⟩⟩
theorem ERep.stab {lo hi : Nat} : Stab lo hi (ERep lo hi) := fun _ _ _ _ _ _ hS hs ⟨m0, m1, m2, m3, m4, m5, h, q⟩ => ⟨m0, m1, m2, m3, m4, m5, h.stab hS hs, q⟩
/-- Marks from k on: a number not below k nor above k + b, and the blocks kept so. -/
def WM (lo hi : Nat) (k : Int) (b : Nat) (w : World) (e : Ending) (w' : World) : Prop := ∃ r : Int, e = .returned (.int .i64 r) ∧ k ≤ r ∧ r ≤ k + b ∧ Sh lo hi w w'
end Go.Proofs.Ytfdfjmibjnmhpaa.B
