/-
  Rows of numbers: how they read, comparison, marks. A row of numbers of the call's own beside marks; marks of a tally. What marks leave of rows that are a copy's own: blocks from lo to hi keep their sizes and their slices, nothing else turns. Generic; no statement is proved here. The marks upon a copy that is its own: contracts. Marks upon messages: contracts. Marks upon states' rows: contract. Rows that are a copy's own, as marks need them; marks upon a replica's state. Marks upon a cluster that is its own. Lists of numbers that a cluster gives: contracts. No statement is proved here.
-/
import Derived.Test.YtfdfjmibjnmhpaaGreatK09
import Derived.Test.YtfdfjmibjnmhpaaGreatK03
import Derived.Test.YtfdfjmibjnmhpaaGreatK05
import Derived.Test.YtfdfjmibjnmhpaaGreatK02
import Derived.Test.YtfdfjmibjnmhpaaGreatK14
import Derived.Test.YtfdfjmibjnmhpaaGreatK16
import Derived.Test.YtfdfjmibjnmhpaaGreatK13
import Derived.Test.YtfdfjmibjnmhpaaGreatK12
set_option linter.unusedVariables false
set_option maxRecDepth 100000
namespace Go.Proofs.YtfdfjmibjnmhpaaGreat.B
open Go.RowKit

section
variable {w w' : World} {Bd Bd' : Nat} {A : Option Addr} {xs : List Int}
end

end Go.Proofs.YtfdfjmibjnmhpaaGreat.B

namespace Go.Proofs.YtfdfjmibjnmhpaaGreat.V
open Go.RowKit Go.Proofs.YtfdfjmibjnmhpaaGreat.B

end Go.Proofs.YtfdfjmibjnmhpaaGreat.V

namespace Go.Proofs.YtfdfjmibjnmhpaaGreat.B
open Go.RowKit
end Go.Proofs.YtfdfjmibjnmhpaaGreat.B
namespace Go.Proofs.YtfdfjmibjnmhpaaGreat.V
open Go.RowKit Go.Proofs.YtfdfjmibjnmhpaaGreat.B
end Go.Proofs.YtfdfjmibjnmhpaaGreat.V

namespace Go.Proofs.YtfdfjmibjnmhpaaGreat.B
open Go.RowKit
/-- A slice, or nothing. -/
def sl : Option Value → Option Value
  | some (.slice A n c) => some (.slice A n c)
  | _ => none
theorem sl_of {o : Option Value} {A : Option Addr} {n c : Nat} (h : sl o = some (.slice A n c)) : o = some (.slice A n c) := by
  unfold sl at h
  split at h
  · exact h
  · cases h
structure Sh (lo hi : Nat) (w w' : World) : Prop where
  os : w'.os = w.os
  tape : w'.tape = w.tape
  output : w'.output = w.output
  size : w.heap.size ≤ w'.heap.size
  block : ∀ k, k < w.heap.size → k < lo ∨ hi ≤ k → w'.heap[k]? = w.heap[k]?
  row : ∀ g t cs, lo ≤ g → g < hi → Blk w g t cs → ∃ cs', Blk w' g t cs' ∧ cs'.size = cs.size ∧ ∀ i : Nat, sl cs'[i]? = sl cs[i]?
section
variable {lo hi : Nat} {a b c w w' : World}
theorem Sh.refl (lo hi : Nat) (w : World) : Sh lo hi w w := ⟨rfl, rfl, rfl, Nat.le_refl _, fun _ _ _ => rfl, fun g t cs _ _ h => ⟨cs, h, rfl, fun _ => rfl⟩⟩
theorem Sh.trans (h : Sh lo hi a b) (k : Sh lo hi b c) : Sh lo hi a c :=
  ⟨k.os.trans h.os, k.tape.trans h.tape, k.output.trans h.output, Nat.le_trans h.size k.size, fun i hi' hne => (k.block i (Nat.lt_of_lt_of_le hi' h.size) hne).trans (h.block i hi' hne), fun g t cs h1 h2 hb => by
    obtain ⟨cs1, b1, z1, s1⟩ := h.row g t cs h1 h2 hb
    obtain ⟨cs2, b2, z2, s2⟩ := k.row g t cs1 h1 h2 b1
    exact ⟨cs2, b2, z2.trans z1, fun i => (s2 i).trans (s1 i)⟩⟩
theorem Sh.put {g i : Nat} {t : TypeId} {cs : Array Value} (h : Sh lo hi a w) (h1 : lo ≤ g) (h2 : g < hi) (hb : Blk a g t cs) (hn : sl cs[i]? = none) (u : Value) (hu : sl (some u) = none) : Sh lo hi a (w.setCell ⟨g, i, none⟩ u) :=
  ⟨h.os, h.tape, h.output, by simpa [World.setCell] using h.size, fun k hk hne => (Below.heap_setCell w ⟨g, i, none⟩ u k (by intro e; have e2 : k = g := e; omega)).trans (h.block k hk hne), fun g' t' cs' k1 k2 hb' => by
    obtain ⟨cs2, b2, z2, s2⟩ := h.row g' t' cs' k1 k2 hb'
    by_cases e : g' = g
    · subst e
      have e2 : cs' = cs := by
        have e3 := hb'.symm.trans hb
        injection e3 with e3
        injection e3
      subst e2
      refine ⟨cs2.setIfInBounds i u, b2.set_ i u, by simpa using z2, fun j => ?_⟩
      by_cases ej : j = i
      · subst ej
        by_cases hlt : j < cs2.size
        · rw [Array.getElem?_setIfInBounds_self_of_lt hlt, hu, hn]
        · rw [Array.getElem?_eq_none (by simp; omega), hn]; rfl
      · rw [Array.getElem?_setIfInBounds_ne (by omega)]; exact s2 j
    · exact ⟨cs2, b2.far (p := ⟨g, i, none⟩) e u, z2, s2⟩⟩
theorem Sh.on (h : Sh lo hi a w) (hb : Below w.heap.size w w') (hh : hi ≤ a.heap.size) : Sh lo hi a w' :=
  ⟨hb.os.trans h.os, hb.tape.trans h.tape, hb.output.trans h.output, Nat.le_trans h.size hb.size, fun k hk hne => (hb.block k (Nat.lt_of_lt_of_le hk h.size)).trans (h.block k hk hne), fun g t cs h1 h2 h3 => by
    obtain ⟨cs1, b1, r⟩ := h.row g t cs h1 h2 h3
    exact ⟨cs1, b1.on hb, r⟩⟩
theorem Sh.below {Bd : Nat} (h : Sh lo hi w w') (hl : Bd ≤ lo) (hz : Bd ≤ w.heap.size) : Below Bd w w' := ⟨h.os, h.tape, h.output, h.size, fun k hk => h.block k (by omega) (.inl (by omega))⟩
theorem Blk.sh {g : Nat} {t : TypeId} {cs : Array Value} (h : Blk w g t cs) (hs : Sh lo hi w w') (hne : g < lo ∨ hi ≤ g) : Blk w' g t cs := (hs.block g h.lt hne).trans h
end
/-- A row of numbers in a block between lo and hi. -/
def Leaf (s lo hi : Nat) (w : World) (A : Option Addr) (n : Nat) : Prop :=
  0 < n → ∃ (t : TypeId) (g : Nat) (cs : Array Value), A = some ⟨g, 0, none⟩ ∧ lo ≤ g ∧ g < hi ∧ Blk w g t cs ∧ n * s ≤ cs.size ∧ ∀ i, i < n * s → sl cs[i]? = none
theorem Leaf.sh {s lo hi n : Nat} {w w' : World} {A : Option Addr} (h : Leaf s lo hi w A n) (hs : Sh lo hi w w') : Leaf s lo hi w' A n := fun h0 => by
  obtain ⟨t, g, cs, e, h1, h2, hb, hz, hn⟩ := h h0
  obtain ⟨cs1, b1, z1, s1⟩ := hs.row g t cs h1 h2 hb
  exact ⟨t, g, cs1, e, h1, h2, b1, by omega, fun i hi => (s1 i).trans (hn i hi)⟩
abbrev Elt := World → Array Value → Nat → Nat → Prop
def Stab (lo hi : Nat) (E : Elt) : Prop := ∀ (w w' : World) (cs cs' : Array Value) (o m : Nat), Sh lo hi w w' → (∀ i : Nat, sl cs'[i]? = sl cs[i]?) → E w cs o m → E w' cs' o m
/-- A row of elements with parts, in a block between lo and hi; f: how much each holds. -/
def RowE (s : Nat) (E : Elt) (lo hi : Nat) (w : World) (A : Option Addr) (n : Nat) (f : Nat → Nat) : Prop :=
  0 < n → ∃ (t : TypeId) (g : Nat) (cs : Array Value), A = some ⟨g, 0, none⟩ ∧ lo ≤ g ∧ g < hi ∧ Blk w g t cs ∧ n * s ≤ cs.size ∧ ∀ i, i < n → E w cs (i * s) (f i)
theorem RowE.sh {s lo hi n : Nat} {E : Elt} {w w' : World} {A : Option Addr} {f : Nat → Nat} (hE : Stab lo hi E) (h : RowE s E lo hi w A n f) (hs : Sh lo hi w w') : RowE s E lo hi w' A n f := fun h0 => by
  obtain ⟨t, g, cs, e, h1, h2, hb, hz, hn⟩ := h h0
  obtain ⟨cs1, b1, z1, s1⟩ := hs.row g t cs h1 h2 hb
  exact ⟨t, g, cs1, e, h1, h2, b1, by omega, fun i hi => hE _ _ _ _ _ _ hs s1 (hn i hi)⟩
def sm (f : Nat → Nat) : Nat → Nat
  | 0 => 0
  | k + 1 => sm f k + f k
theorem sm_mono (f : Nat → Nat) {i j : Nat} (h : i ≤ j) : sm f i ≤ sm f j := by
  induction j with
  | zero => obtain rfl : i = 0 := by omega
            exact Nat.le_refl _
  | succ j ih =>
    by_cases e : i = j + 1
    · subst e; exact Nat.le_refl _
    · have := ih (by omega)
      simp only [sm]; omega
theorem sm_step (f : Nat → Nat) {i j : Nat} (h : i < j) : sm f i + f i ≤ sm f j := sm_mono f (show i + 1 ≤ j by omega)
def SlAt (cs : Array Value) (o : Nat) (P : Option Addr → Nat → Prop) : Prop := ∃ B k c, cs[o]? = some (.slice B k c) ∧ k ≤ 1048576 ∧ P B k
theorem SlAt.mono {cs cs' : Array Value} {o : Nat} {P P' : Option Addr → Nat → Prop} (h : SlAt cs o P) (hs : ∀ i : Nat, sl cs'[i]? = sl cs[i]?) (hp : ∀ B k, P B k → P' B k) : SlAt cs' o P' := by
  obtain ⟨B, k, c, e, hk, h⟩ := h
  exact ⟨B, k, c, sl_of (by rw [hs, e]; rfl), hk, hp B k h⟩
/-- Some first cells that hold no slice. -/
def Bare (cs : Array Value) (o n : Nat) : Prop := ∀ j, j < n → sl cs[o + j]? = none
theorem Bare.mono {cs cs' : Array Value} {o n : Nat} (h : Bare cs o n) (hs : ∀ i : Nat, sl cs'[i]? = sl cs[i]?) : Bare cs' o n := fun j hj => (hs _).trans (h j hj)
def EMsg (lo hi : Nat) : Elt := fun w cs o m => Bare cs o 5 ∧ SlAt cs (o + 5) fun B k => Leaf 2 lo hi w B k ∧ k ≤ m
theorem EMsg.stab {lo hi : Nat} : Stab lo hi (EMsg lo hi) := fun _ _ _ _ _ _ hS hs h => ⟨h.1.mono hs, h.2.mono hs fun _ _ p => ⟨p.1.sh hS, p.2⟩⟩
def EReport (lo hi : Nat) : Elt := fun w cs o m => Bare cs o 3 ∧ SlAt cs (o + 3) fun B k => Leaf 2 lo hi w B k ∧ k ≤ m
theorem EReport.stab {lo hi : Nat} : Stab lo hi (EReport lo hi) := fun _ _ _ _ _ _ hS hs h => ⟨h.1.mono hs, h.2.mono hs fun _ _ p => ⟨p.1.sh hS, p.2⟩⟩
def ELink (lo hi : Nat) : Elt := fun w cs o m => SlAt cs o fun B k => ∃ f, RowE 6 (EMsg lo hi) lo hi w B k f ∧ k + sm f k ≤ m
theorem ELink.stab {lo hi : Nat} : Stab lo hi (ELink lo hi) := fun _ _ _ _ _ _ hS hs h => h.mono hs fun _ _ ⟨f, p, q⟩ => ⟨f, p.sh EMsg.stab hS, q⟩
def EHeard (lo hi : Nat) : Elt := fun w cs o m => Bare cs o 1 ∧ SlAt cs (o + 1) fun B k => ∃ f, RowE 4 (EReport lo hi) lo hi w B k f ∧ k + sm f k ≤ m
theorem EHeard.stab {lo hi : Nat} : Stab lo hi (EHeard lo hi) := fun _ _ _ _ _ _ hS hs h => ⟨h.1.mono hs, h.2.mono hs fun _ _ ⟨f, p, q⟩ => ⟨f, p.sh EReport.stab hS, q⟩⟩
/-- The parts of a replica's state: how much each holds at most. -/
structure ERp (lo hi : Nat) (w : World) (cs : Array Value) (o m0 m1 m2 m3 m4 m5 : Nat) : Prop where
  s0 : Bare cs o 5
  s1 : Bare cs (o + 6) 3
  v : SlAt cs (o + 5) fun B k => Leaf 2 lo hi w B k ∧ k ≤ m0
  p : SlAt cs (o + 9) fun B k => Leaf 3 lo hi w B k ∧ k ≤ m1
  q : SlAt cs (o + 10) fun B k => Leaf 3 lo hi w B k ∧ k ≤ m2
  r : SlAt cs (o + 11) fun B k => Leaf 3 lo hi w B k ∧ k ≤ m3
  d : SlAt cs (o + 12) fun B k => Leaf 3 lo hi w B k ∧ k ≤ m4
  h : SlAt cs (o + 13) fun B k => ∃ f, RowE 2 (EHeard lo hi) lo hi w B k f ∧ k + sm f k ≤ m5
def ERep (lo hi : Nat) : Elt := fun w cs o m => ∃ m0 m1 m2 m3 m4 m5, ERp lo hi w cs o m0 m1 m2 m3 m4 m5 ∧ m0 + m1 + m2 + m3 + m4 + m5 ≤ m
theorem ERp.stab {lo hi : Nat} {w w' : World} {cs cs' : Array Value} {o m0 m1 m2 m3 m4 m5 : Nat} (h : ERp lo hi w cs o m0 m1 m2 m3 m4 m5) (hS : Sh lo hi w w') (hs : ∀ i : Nat, sl cs'[i]? = sl cs[i]?) : ERp lo hi w' cs' o m0 m1 m2 m3 m4 m5 :=
  ⟨h.s0.mono hs, h.s1.mono hs, h.v.mono hs fun _ _ p => ⟨p.1.sh hS, p.2⟩, h.p.mono hs fun _ _ p => ⟨p.1.sh hS, p.2⟩, h.q.mono hs fun _ _ p => ⟨p.1.sh hS, p.2⟩, h.r.mono hs fun _ _ p => ⟨p.1.sh hS, p.2⟩, h.d.mono hs fun _ _ p => ⟨p.1.sh hS, p.2⟩, h.h.mono hs fun _ _ ⟨f, p, q⟩ => ⟨f, p.sh EHeard.stab hS, q⟩⟩
theorem ERep.stab {lo hi : Nat} : Stab lo hi (ERep lo hi) := fun _ _ _ _ _ _ hS hs ⟨m0, m1, m2, m3, m4, m5, h, q⟩ => ⟨m0, m1, m2, m3, m4, m5, h.stab hS hs, q⟩
/-- Marks from k on: a number not below k nor above k + b, and the blocks kept so. -/
def WM (lo hi : Nat) (k : Int) (b : Nat) (w : World) (e : Ending) (w' : World) : Prop := ∃ r : Int, e = .returned (.int .i64 r) ∧ k ≤ r ∧ r ≤ k + b ∧ Sh lo hi w w'
end Go.Proofs.YtfdfjmibjnmhpaaGreat.B

namespace Go.Proofs.YtfdfjmibjnmhpaaGreat.V
open Go.RowKit Go.Proofs.YtfdfjmibjnmhpaaGreat.B
set_option maxHeartbeats 1600000 in
theorem wVoteS0 (lo hi : Nat) (A : Option Addr) (n c : Nat) (k : Int) (w : World) (h : Leaf 2 lo hi w A n) (hn : n ≤ 1048576) (h0 : 0 ≤ k) (h1 : k ≤ 16777216) :
    Calls Tryz.prog 44 #[.slice A n c, .int .i64 k] w (WM lo hi k (2 * n) w) := by
  have HL := Lib.hid h; clear h
  go_enter Tryz.func44, Tryz.ntmps44
  go_wp2
  go_loopw [1, 5] (fun kk i wr => ∃ (j : Nat) (r : Int), j ≤ n ∧ i = .int .i64 j ∧ kk = .int .i64 r ∧ k ≤ r ∧ r ≤ k + 2 * j ∧ Hid (Sh lo hi w wr)) (fun _ i _ => n - (intOf i).toNat)
  case atStart => exact ⟨0, k, Nat.zero_le _, rfl, rfl, by omega, by omega, Sh.refl _ _ _⟩
  case round =>
    obtain ⟨j, r, hj, rfl, rfl, hr0, hr1, hs⟩ := hrel
    by_cases hlt : j < n
    · obtain ⟨t, g, cs, rfl, hg1, hg2, hb, hz, hns⟩ := (HL.out.sh hs.out) (by omega)
      clear HL
      have hr2 : 0 ≤ r := by omega
      have hr3 : r ≤ 100000000 := by omega
      obtain ⟨y0, hy0⟩ : ∃ y, cs[j * 2]? = some y := ⟨_, Array.getElem?_eq_getElem (by omega)⟩
      have hc0 := (hb.cell (j * 2)).trans hy0
      have hf0 := hb.frozen (j * 2)
      have n0 := hns (j * 2) (by omega)
      obtain ⟨y1, hy1⟩ : ∃ y, cs[j * 2 + 1]? = some y := ⟨_, Array.getElem?_eq_getElem (by omega)⟩
      have hc1 := (hb.cell (j * 2 + 1)).trans hy1
      have hf1 := hb.frozen (j * 2 + 1)
      have n1 := hns (j * 2 + 1) (by omega)
      have HB := Lib.hid hb; clear hb hns hy0 hy1
      have N0 := Lib.hid n0; clear n0
      have N1 := Lib.hid n1; clear n1
      go_wp2
      go_roundw
      case rel => exact ⟨j + 1, r + 2, by omega, by go_num, by congr 1 <;> omega, by omega, by omega, hs.out.trans (((Sh.refl lo hi wr).put hg1 hg2 HB.out N0.out _ rfl).put hg1 hg2 HB.out N1.out _ rfl)⟩
      case measure => simp [intOf]; omega
    · have hjn : j = n := by omega
      subst hjn
      go_wp2
      go_ret
      exact ⟨r, rfl, hr0, by omega, hs.out⟩
theorem wVoteS {lo hi : Nat} {a : World} (A : Option Addr) (n c : Nat) (k : Int) (w : World) (hS : Sh lo hi a w) (h : Leaf 2 lo hi a A n) (hn : n ≤ 1048576) (h0 : 0 ≤ k) (h1 : k ≤ 16777216) :
    Calls Tryz.prog 44 #[.slice A n c, .int .i64 k] w (WM lo hi k (2 * n) a) :=
  ((wVoteS0 lo hi A n c k w (h.sh hS) hn h0 h1)).mono fun e w' ⟨r, h1, h2, h3, h4⟩ => ⟨r, h1, h2, h3, hS.trans h4⟩
set_option maxHeartbeats 1600000 in
theorem wBallotS0 (lo hi : Nat) (A : Option Addr) (n c : Nat) (k : Int) (w : World) (h : Leaf 3 lo hi w A n) (hn : n ≤ 1048576) (h0 : 0 ≤ k) (h1 : k ≤ 16777216) :
    Calls Tryz.prog 60 #[.slice A n c, .int .i64 k] w (WM lo hi k (3 * n) w) := by
  have HL := Lib.hid h; clear h
  go_enter Tryz.func60, Tryz.ntmps60
  go_wp2
  go_loopw [1, 5] (fun kk i wr => ∃ (j : Nat) (r : Int), j ≤ n ∧ i = .int .i64 j ∧ kk = .int .i64 r ∧ k ≤ r ∧ r ≤ k + 3 * j ∧ Hid (Sh lo hi w wr)) (fun _ i _ => n - (intOf i).toNat)
  case atStart => exact ⟨0, k, Nat.zero_le _, rfl, rfl, by omega, by omega, Sh.refl _ _ _⟩
  case round =>
    obtain ⟨j, r, hj, rfl, rfl, hr0, hr1, hs⟩ := hrel
    by_cases hlt : j < n
    · obtain ⟨t, g, cs, rfl, hg1, hg2, hb, hz, hns⟩ := (HL.out.sh hs.out) (by omega)
      clear HL
      have hr2 : 0 ≤ r := by omega
      have hr3 : r ≤ 100000000 := by omega
      obtain ⟨y0, hy0⟩ : ∃ y, cs[j * 3]? = some y := ⟨_, Array.getElem?_eq_getElem (by omega)⟩
      have hc0 := (hb.cell (j * 3)).trans hy0
      have hf0 := hb.frozen (j * 3)
      have n0 := hns (j * 3) (by omega)
      obtain ⟨y1, hy1⟩ : ∃ y, cs[j * 3 + 1]? = some y := ⟨_, Array.getElem?_eq_getElem (by omega)⟩
      have hc1 := (hb.cell (j * 3 + 1)).trans hy1
      have hf1 := hb.frozen (j * 3 + 1)
      have n1 := hns (j * 3 + 1) (by omega)
      obtain ⟨y2, hy2⟩ : ∃ y, cs[j * 3 + 2]? = some y := ⟨_, Array.getElem?_eq_getElem (by omega)⟩
      have hc2 := (hb.cell (j * 3 + 2)).trans hy2
      have hf2 := hb.frozen (j * 3 + 2)
      have n2 := hns (j * 3 + 2) (by omega)
      have HB := Lib.hid hb; clear hb hns hy0 hy1 hy2
      have N0 := Lib.hid n0; clear n0
      have N1 := Lib.hid n1; clear n1
      have N2 := Lib.hid n2; clear n2
      go_wp2
      go_roundw
      case rel => exact ⟨j + 1, r + 3, by omega, by go_num, by congr 1 <;> omega, by omega, by omega, hs.out.trans ((((Sh.refl lo hi wr).put hg1 hg2 HB.out N0.out _ rfl).put hg1 hg2 HB.out N1.out _ rfl).put hg1 hg2 HB.out N2.out _ rfl)⟩
      case measure => simp [intOf]; omega
    · have hjn : j = n := by omega
      subst hjn
      go_wp2
      go_ret
      exact ⟨r, rfl, hr0, by omega, hs.out⟩
theorem wBallotS {lo hi : Nat} {a : World} (A : Option Addr) (n c : Nat) (k : Int) (w : World) (hS : Sh lo hi a w) (h : Leaf 3 lo hi a A n) (hn : n ≤ 1048576) (h0 : 0 ≤ k) (h1 : k ≤ 16777216) :
    Calls Tryz.prog 60 #[.slice A n c, .int .i64 k] w (WM lo hi k (3 * n) a) :=
  ((wBallotS0 lo hi A n c k w (h.sh hS) hn h0 h1)).mono fun e w' ⟨r, h1, h2, h3, h4⟩ => ⟨r, h1, h2, h3, hS.trans h4⟩
set_option maxHeartbeats 1600000 in
theorem wBoolS0 (lo hi : Nat) (A : Option Addr) (n c : Nat) (k : Int) (w : World) (h : Leaf 1 lo hi w A n) (hn : n ≤ 1048576) (h0 : 0 ≤ k) (h1 : k ≤ 16777216) :
    Calls Tryz.prog 36 #[.slice A n c, .int .i64 k] w (WM lo hi k (1 * n) w) := by
  have HL := Lib.hid h; clear h
  go_enter Tryz.func36, Tryz.ntmps36
  go_wp2
  go_loopw [1, 5] (fun kk i wr => ∃ (j : Nat) (r : Int), j ≤ n ∧ i = .int .i64 j ∧ kk = .int .i64 r ∧ k ≤ r ∧ r ≤ k + 1 * j ∧ Hid (Sh lo hi w wr)) (fun _ i _ => n - (intOf i).toNat)
  case atStart => exact ⟨0, k, Nat.zero_le _, rfl, rfl, by omega, by omega, Sh.refl _ _ _⟩
  case round =>
    obtain ⟨j, r, hj, rfl, rfl, hr0, hr1, hs⟩ := hrel
    by_cases hlt : j < n
    · obtain ⟨t, g, cs, rfl, hg1, hg2, hb, hz, hns⟩ := (HL.out.sh hs.out) (by omega)
      clear HL
      have hr2 : 0 ≤ r := by omega
      have hr3 : r ≤ 100000000 := by omega
      obtain ⟨y0, hy0⟩ : ∃ y, cs[j]? = some y := ⟨_, Array.getElem?_eq_getElem (by omega)⟩
      have hc0 := (hb.cell (j)).trans hy0
      have hf0 := hb.frozen (j)
      have n0 := hns (j) (by omega)
      have HB := Lib.hid hb; clear hb hns hy0
      have N0 := Lib.hid n0; clear n0
      go_wp2
      go_roundw
      case rel => exact ⟨j + 1, r + 1, by omega, by go_num, by congr 1 <;> omega, by omega, by omega, hs.out.trans ((Sh.refl lo hi wr).put hg1 hg2 HB.out N0.out _ rfl)⟩
      case measure => simp [intOf]; omega
    · have hjn : j = n := by omega
      subst hjn
      go_wp2
      go_ret
      exact ⟨r, rfl, hr0, by omega, hs.out⟩
theorem wBoolS {lo hi : Nat} {a : World} (A : Option Addr) (n c : Nat) (k : Int) (w : World) (hS : Sh lo hi a w) (h : Leaf 1 lo hi a A n) (hn : n ≤ 1048576) (h0 : 0 ≤ k) (h1 : k ≤ 16777216) :
    Calls Tryz.prog 36 #[.slice A n c, .int .i64 k] w (WM lo hi k (1 * n) a) :=
  ((wBoolS0 lo hi A n c k w (h.sh hS) hn h0 h1)).mono fun e w' ⟨r, h1, h2, h3, h4⟩ => ⟨r, h1, h2, h3, hS.trans h4⟩
set_option maxHeartbeats 6400000 in
theorem wReportS0 (lo hi : Nat) (A : Option Addr) (n c : Nat) (f : Nat → Nat) (k : Int) (w : World) (h : RowE 4 (EReport lo hi) lo hi w A n f) (hn : n ≤ 1048576) (h0 : 0 ≤ k) (h1 : k + (3 * n + 2 * sm f n : Nat) ≤ 16777216) :
    Calls Tryz.prog 87 #[.slice A n c, .int .i64 k] w (WM lo hi k (3 * n + 2 * sm f n) w) := by
  have HL := Lib.hid h; clear h
  have HM := Lib.hid (fun j => @sm_step f j n)
  have HT := Lib.hid (show ∀ j, sm f (j + 1) = sm f j + f j from fun _ => rfl)
  obtain ⟨T, hT⟩ : ∃ T, sm f n = T := ⟨_, rfl⟩
  rw [hT] at h1 HM ⊢
  have HN := Lib.hid hT; clear hT
  go_enter Tryz.func87, Tryz.ntmps87
  go_wp2
  go_loopw [1, 5] (fun kk i wr => ∃ (j : Nat) (r : Int), j ≤ n ∧ i = .int .i64 j ∧ kk = .int .i64 r ∧ k ≤ r ∧ r ≤ k + (3 * j + 2 * sm f j : Nat) ∧ Hid (Sh lo hi w wr)) (fun _ i _ => n - (intOf i).toNat)
  case atStart => exact ⟨0, k, Nat.zero_le _, rfl, rfl, by omega, by simp [sm], Sh.refl _ _ _⟩
  case round =>
    obtain ⟨j, r0, hj, rfl, rfl, hr0, hr1, hs⟩ := hrel
    by_cases hlt : j < n
    · obtain ⟨t, g, cs, rfl, hg1, hg2, hb0, hz0, hE⟩ := (HL.out.sh EReport.stab hs.out) (Nat.lt_of_le_of_lt (Nat.zero_le _) hlt)
      have he := hE j hlt
      clear HL hE
      have hms := HM.out j hlt
      have hmt := HT.out j
      obtain ⟨sj, hsj⟩ : ∃ s, sm f j = s := ⟨_, rfl⟩
      obtain ⟨fj, hfj⟩ : ∃ s, f j = s := ⟨_, rfl⟩
      rw [hsj] at hr1 hms hmt
      rw [hfj] at hms hmt he
      have HSJ := Lib.hid hsj; have HMT := Lib.hid hmt; clear hsj hfj hmt
      have hq0 : 0 ≤ r0 := by omega
      have hq1 : r0 ≤ 16777216 := by omega
      have hsz : n * 4 ≤ cs.size := hz0
      obtain ⟨hbare, hsl⟩ := he
      have NS0 := Lib.hid (show sl cs[j * 4]? = none from hbare 0 (by omega))
      have NS1 := Lib.hid (show sl cs[j * 4 + 1]? = none from hbare 1 (by omega))
      have NS2 := Lib.hid (show sl cs[j * 4 + 2]? = none from hbare 2 (by omega))
      obtain ⟨B3, k3, c3, e3, kk3, p3, hm3⟩ := hsl
      have E3 := Lib.hid e3; have K3 := Lib.hid kk3; have P3 := Lib.hid p3; clear e3 kk3 p3
      have TW0 := Lib.hid (Sh.refl lo hi wr)
      obtain ⟨y0, hy0⟩ : ∃ y, cs[j * 4]? = some y := ⟨_, Array.getElem?_eq_getElem (by omega)⟩
      have hc0 := (hb0.cell (j * 4)).trans hy0
      have hf0 := hb0.frozen (j * 4)
      obtain ⟨y1, hy1⟩ : ∃ y, cs[j * 4 + 1]? = some y := ⟨_, Array.getElem?_eq_getElem (by omega)⟩
      have hc1 := (hb0.cell (j * 4 + 1)).trans hy1
      have hf1 := hb0.frozen (j * 4 + 1)
      obtain ⟨y2, hy2⟩ : ∃ y, cs[j * 4 + 2]? = some y := ⟨_, Array.getElem?_eq_getElem (by omega)⟩
      have hc2 := (hb0.cell (j * 4 + 2)).trans hy2
      have hf2 := hb0.frozen (j * 4 + 2)
      have hs3_ : cs[j * 4 + 3]? = some (.slice B3 k3 c3) := sl_of (by rw [E3.out]; rfl)
      have hl3 := (hb0.cell (j * 4 + 3)).trans hs3_
      have N0 := Lib.hid (show sl cs[j * 4]? = none by exact NS0.out)
      have N1 := Lib.hid (show sl cs[j * 4 + 1]? = none by exact NS1.out)
      have N2 := Lib.hid (show sl cs[j * 4 + 2]? = none by exact NS2.out)
      have HB0 := Lib.hid hb0; clear hb0 hs3_ hy0 hy1 hy2
      go_wp2_with fail
      refine (wVoteS (lo := lo) (hi := hi) (a := wr) B3 k3 c3 _ _ ((((Sh.refl lo hi wr).put hg1 hg2 HB0.out N0.out _ rfl).put hg1 hg2 HB0.out N1.out _ rfl).put hg1 hg2 HB0.out N2.out _ rfl) (P3.out.sh TW0.out) K3.out (by omega) (by omega)).mono ?_
      rintro e w1 ⟨r1, rfl, hra1, hrb1, hS1⟩
      obtain ⟨cs1, hb1, hz1, hsl1⟩ := hS1.row g t cs hg1 hg2 HB0.out
      have HS1 := Lib.hid (show ∀ i : Nat, sl cs1[i]? = sl cs[i]? from fun i => hsl1 i)
      have TW1 := Lib.hid (TW0.out.trans hS1)
      clear hS1 hsl1 HB0  TW0 hl3 hc0 hf0 N0 hc1 hf1 N1 hc2 hf2 N2
      have HB1 := Lib.hid hb1; clear hb1 
      go_wp2
      go_roundw
      case rel => exact ⟨j + 1, r1, by omega, by go_num, by congr 1 <;> omega, by omega, by rw [HMT.out]; omega, hs.out.trans (TW1.out.trans (Sh.refl lo hi w1))⟩
      case measure => simp [intOf]; omega
    · have hjn : j = n := by omega
      subst hjn
      rw [HN.out] at hr1
      go_wp2
      go_ret
      exact ⟨r0, rfl, hr0, hr1, hs.out⟩
theorem wReportS {lo hi : Nat} {a : World} (A : Option Addr) (n c : Nat) (f : Nat → Nat) (k : Int) (w : World) (hS : Sh lo hi a w) (h : RowE 4 (EReport lo hi) lo hi a A n f) (hn : n ≤ 1048576) (h0 : 0 ≤ k) (h1 : k + (3 * n + 2 * sm f n : Nat) ≤ 16777216) :
    Calls Tryz.prog 87 #[.slice A n c, .int .i64 k] w (WM lo hi k (3 * n + 2 * sm f n) a) :=
  ((wReportS0 lo hi A n c f k w (h.sh EReport.stab hS) hn h0 h1)).mono fun e w' ⟨r, h1, h2, h3, h4⟩ => ⟨r, h1, h2, h3, hS.trans h4⟩
set_option maxHeartbeats 6400000 in
theorem wHeardS0 (lo hi : Nat) (A : Option Addr) (n c : Nat) (f : Nat → Nat) (k : Int) (w : World) (h : RowE 2 (EHeard lo hi) lo hi w A n f) (hn : n ≤ 1048576) (h0 : 0 ≤ k) (h1 : k + (1 * n + 3 * sm f n : Nat) ≤ 16777216) :
    Calls Tryz.prog 61 #[.slice A n c, .int .i64 k] w (WM lo hi k (1 * n + 3 * sm f n) w) := by
  have HL := Lib.hid h; clear h
  have HM := Lib.hid (fun j => @sm_step f j n)
  have HT := Lib.hid (show ∀ j, sm f (j + 1) = sm f j + f j from fun _ => rfl)
  obtain ⟨T, hT⟩ : ∃ T, sm f n = T := ⟨_, rfl⟩
  rw [hT] at h1 HM ⊢
  have HN := Lib.hid hT; clear hT
  go_enter Tryz.func61, Tryz.ntmps61
  go_wp2
  go_loopw [1, 5] (fun kk i wr => ∃ (j : Nat) (r : Int), j ≤ n ∧ i = .int .i64 j ∧ kk = .int .i64 r ∧ k ≤ r ∧ r ≤ k + (1 * j + 3 * sm f j : Nat) ∧ Hid (Sh lo hi w wr)) (fun _ i _ => n - (intOf i).toNat)
  case atStart => exact ⟨0, k, Nat.zero_le _, rfl, rfl, by omega, by simp [sm], Sh.refl _ _ _⟩
  case round =>
    obtain ⟨j, r0, hj, rfl, rfl, hr0, hr1, hs⟩ := hrel
    by_cases hlt : j < n
    · obtain ⟨t, g, cs, rfl, hg1, hg2, hb0, hz0, hE⟩ := (HL.out.sh EHeard.stab hs.out) (Nat.lt_of_le_of_lt (Nat.zero_le _) hlt)
      have he := hE j hlt
      clear HL hE
      have hms := HM.out j hlt
      have hmt := HT.out j
      obtain ⟨sj, hsj⟩ : ∃ s, sm f j = s := ⟨_, rfl⟩
      obtain ⟨fj, hfj⟩ : ∃ s, f j = s := ⟨_, rfl⟩
      rw [hsj] at hr1 hms hmt
      rw [hfj] at hms hmt he
      have HSJ := Lib.hid hsj; have HMT := Lib.hid hmt; clear hsj hfj hmt
      have hq0 : 0 ≤ r0 := by omega
      have hq1 : r0 ≤ 16777216 := by omega
      have hsz : n * 2 ≤ cs.size := hz0
      obtain ⟨hbare, hsl⟩ := he
      have NS0 := Lib.hid (show sl cs[j * 2]? = none from hbare 0 (by omega))
      obtain ⟨B1, k1, c1, e1, kk1, f1, p1, hm1⟩ := hsl
      have E1 := Lib.hid e1; have K1 := Lib.hid kk1; have P1 := Lib.hid p1; clear e1 kk1 p1
      have TW0 := Lib.hid (Sh.refl lo hi wr)
      obtain ⟨y0, hy0⟩ : ∃ y, cs[j * 2]? = some y := ⟨_, Array.getElem?_eq_getElem (by omega)⟩
      have hc0 := (hb0.cell (j * 2)).trans hy0
      have hf0 := hb0.frozen (j * 2)
      have hs1_ : cs[j * 2 + 1]? = some (.slice B1 k1 c1) := sl_of (by rw [E1.out]; rfl)
      have hl1 := (hb0.cell (j * 2 + 1)).trans hs1_
      have N0 := Lib.hid (show sl cs[j * 2]? = none by exact NS0.out)
      have HB0 := Lib.hid hb0; clear hb0 hs1_ hy0
      go_wp2_with fail
      refine (wReportS (lo := lo) (hi := hi) (a := wr) B1 k1 c1 f1 _ _ ((Sh.refl lo hi wr).put hg1 hg2 HB0.out N0.out _ rfl) (P1.out.sh EReport.stab TW0.out) K1.out (by omega) (by omega)).mono ?_
      rintro e w1 ⟨r1, rfl, hra1, hrb1, hS1⟩
      obtain ⟨cs1, hb1, hz1, hsl1⟩ := hS1.row g t cs hg1 hg2 HB0.out
      have HS1 := Lib.hid (show ∀ i : Nat, sl cs1[i]? = sl cs[i]? from fun i => hsl1 i)
      have TW1 := Lib.hid (TW0.out.trans hS1)
      clear hS1 hsl1 HB0  TW0 hl1 hc0 hf0 N0
      have HB1 := Lib.hid hb1; clear hb1 
      go_wp2
      go_roundw
      case rel => exact ⟨j + 1, r1, by omega, by go_num, by congr 1 <;> omega, by omega, by rw [HMT.out]; omega, hs.out.trans (TW1.out.trans (Sh.refl lo hi w1))⟩
      case measure => simp [intOf]; omega
    · have hjn : j = n := by omega
      subst hjn
      rw [HN.out] at hr1
      go_wp2
      go_ret
      exact ⟨r0, rfl, hr0, hr1, hs.out⟩
theorem wHeardS {lo hi : Nat} {a : World} (A : Option Addr) (n c : Nat) (f : Nat → Nat) (k : Int) (w : World) (hS : Sh lo hi a w) (h : RowE 2 (EHeard lo hi) lo hi a A n f) (hn : n ≤ 1048576) (h0 : 0 ≤ k) (h1 : k + (1 * n + 3 * sm f n : Nat) ≤ 16777216) :
    Calls Tryz.prog 61 #[.slice A n c, .int .i64 k] w (WM lo hi k (1 * n + 3 * sm f n) a) :=
  ((wHeardS0 lo hi A n c f k w (h.sh EHeard.stab hS) hn h0 h1)).mono fun e w' ⟨r, h1, h2, h3, h4⟩ => ⟨r, h1, h2, h3, hS.trans h4⟩
end Go.Proofs.YtfdfjmibjnmhpaaGreat.V

namespace Go.Proofs.YtfdfjmibjnmhpaaGreat.V
open Go.RowKit Go.Proofs.YtfdfjmibjnmhpaaGreat.B
set_option maxHeartbeats 6400000 in
theorem wMsgS0 (lo hi : Nat) (A : Option Addr) (n c : Nat) (f : Nat → Nat) (k : Int) (w : World) (h : RowE 6 (EMsg lo hi) lo hi w A n f) (hn : n ≤ 1048576) (h0 : 0 ≤ k) (h1 : k + (5 * n + 2 * sm f n : Nat) ≤ 16777216) :
    Calls Tryz.prog 19 #[.slice A n c, .int .i64 k] w (WM lo hi k (5 * n + 2 * sm f n) w) := by
  have HL := Lib.hid h; clear h
  have HM := Lib.hid (fun j => @sm_step f j n)
  have HT := Lib.hid (show ∀ j, sm f (j + 1) = sm f j + f j from fun _ => rfl)
  obtain ⟨T, hT⟩ : ∃ T, sm f n = T := ⟨_, rfl⟩
  rw [hT] at h1 HM ⊢
  have HN := Lib.hid hT; clear hT
  go_enter Tryz.func19, Tryz.ntmps19
  go_wp2
  go_loopw [1, 5] (fun kk i wr => ∃ (j : Nat) (r : Int), j ≤ n ∧ i = .int .i64 j ∧ kk = .int .i64 r ∧ k ≤ r ∧ r ≤ k + (5 * j + 2 * sm f j : Nat) ∧ Hid (Sh lo hi w wr)) (fun _ i _ => n - (intOf i).toNat)
  case atStart => exact ⟨0, k, Nat.zero_le _, rfl, rfl, by omega, by simp [sm], Sh.refl _ _ _⟩
  case round =>
    obtain ⟨j, r0, hj, rfl, rfl, hr0, hr1, hs⟩ := hrel
    by_cases hlt : j < n
    · obtain ⟨t, g, cs, rfl, hg1, hg2, hb0, hz0, hE⟩ := (HL.out.sh EMsg.stab hs.out) (Nat.lt_of_le_of_lt (Nat.zero_le _) hlt)
      have he := hE j hlt
      clear HL hE
      have hms := HM.out j hlt
      have hmt := HT.out j
      obtain ⟨sj, hsj⟩ : ∃ s, sm f j = s := ⟨_, rfl⟩
      obtain ⟨fj, hfj⟩ : ∃ s, f j = s := ⟨_, rfl⟩
      rw [hsj] at hr1 hms hmt
      rw [hfj] at hms hmt he
      have HSJ := Lib.hid hsj; have HMT := Lib.hid hmt; clear hsj hfj hmt
      have hq0 : 0 ≤ r0 := by omega
      have hq1 : r0 ≤ 16777216 := by omega
      have hsz : n * 6 ≤ cs.size := hz0
      obtain ⟨hbare, hsl⟩ := he
      have NS0 := Lib.hid (show sl cs[j * 6]? = none from hbare 0 (by omega))
      have NS1 := Lib.hid (show sl cs[j * 6 + 1]? = none from hbare 1 (by omega))
      have NS2 := Lib.hid (show sl cs[j * 6 + 2]? = none from hbare 2 (by omega))
      have NS3 := Lib.hid (show sl cs[j * 6 + 3]? = none from hbare 3 (by omega))
      have NS4 := Lib.hid (show sl cs[j * 6 + 4]? = none from hbare 4 (by omega))
      obtain ⟨B5, k5, c5, e5, kk5, p5, hm5⟩ := hsl
      have E5 := Lib.hid e5; have K5 := Lib.hid kk5; have P5 := Lib.hid p5; clear e5 kk5 p5
      have TW0 := Lib.hid (Sh.refl lo hi wr)
      obtain ⟨y0, hy0⟩ : ∃ y, cs[j * 6]? = some y := ⟨_, Array.getElem?_eq_getElem (by omega)⟩
      have hc0 := (hb0.cell (j * 6)).trans hy0
      have hf0 := hb0.frozen (j * 6)
      obtain ⟨y1, hy1⟩ : ∃ y, cs[j * 6 + 1]? = some y := ⟨_, Array.getElem?_eq_getElem (by omega)⟩
      have hc1 := (hb0.cell (j * 6 + 1)).trans hy1
      have hf1 := hb0.frozen (j * 6 + 1)
      obtain ⟨y2, hy2⟩ : ∃ y, cs[j * 6 + 2]? = some y := ⟨_, Array.getElem?_eq_getElem (by omega)⟩
      have hc2 := (hb0.cell (j * 6 + 2)).trans hy2
      have hf2 := hb0.frozen (j * 6 + 2)
      obtain ⟨y3, hy3⟩ : ∃ y, cs[j * 6 + 3]? = some y := ⟨_, Array.getElem?_eq_getElem (by omega)⟩
      have hc3 := (hb0.cell (j * 6 + 3)).trans hy3
      have hf3 := hb0.frozen (j * 6 + 3)
      obtain ⟨y4, hy4⟩ : ∃ y, cs[j * 6 + 4]? = some y := ⟨_, Array.getElem?_eq_getElem (by omega)⟩
      have hc4 := (hb0.cell (j * 6 + 4)).trans hy4
      have hf4 := hb0.frozen (j * 6 + 4)
      have hs5_ : cs[j * 6 + 5]? = some (.slice B5 k5 c5) := sl_of (by rw [E5.out]; rfl)
      have hl5 := (hb0.cell (j * 6 + 5)).trans hs5_
      have N0 := Lib.hid (show sl cs[j * 6]? = none by exact NS0.out)
      have N1 := Lib.hid (show sl cs[j * 6 + 1]? = none by exact NS1.out)
      have N2 := Lib.hid (show sl cs[j * 6 + 2]? = none by exact NS2.out)
      have N3 := Lib.hid (show sl cs[j * 6 + 3]? = none by exact NS3.out)
      have N4 := Lib.hid (show sl cs[j * 6 + 4]? = none by exact NS4.out)
      have HB0 := Lib.hid hb0; clear hb0 hs5_ hy0 hy1 hy2 hy3 hy4
      go_wp2_with fail
      refine (wVoteS (lo := lo) (hi := hi) (a := wr) B5 k5 c5 _ _ ((((((Sh.refl lo hi wr).put hg1 hg2 HB0.out N0.out _ rfl).put hg1 hg2 HB0.out N1.out _ rfl).put hg1 hg2 HB0.out N2.out _ rfl).put hg1 hg2 HB0.out N3.out _ rfl).put hg1 hg2 HB0.out N4.out _ rfl) (P5.out.sh TW0.out) K5.out (by omega) (by omega)).mono ?_
      rintro e w1 ⟨r1, rfl, hra1, hrb1, hS1⟩
      obtain ⟨cs1, hb1, hz1, hsl1⟩ := hS1.row g t cs hg1 hg2 HB0.out
      have HS1 := Lib.hid (show ∀ i : Nat, sl cs1[i]? = sl cs[i]? from fun i => hsl1 i)
      have TW1 := Lib.hid (TW0.out.trans hS1)
      clear hS1 hsl1 HB0  TW0 hl5 hc0 hf0 N0 hc1 hf1 N1 hc2 hf2 N2 hc3 hf3 N3 hc4 hf4 N4
      have HB1 := Lib.hid hb1; clear hb1 
      go_wp2
      go_roundw
      case rel => exact ⟨j + 1, r1, by omega, by go_num, by congr 1 <;> omega, by omega, by rw [HMT.out]; omega, hs.out.trans (TW1.out.trans (Sh.refl lo hi w1))⟩
      case measure => simp [intOf]; omega
    · have hjn : j = n := by omega
      subst hjn
      rw [HN.out] at hr1
      go_wp2
      go_ret
      exact ⟨r0, rfl, hr0, hr1, hs.out⟩
theorem wMsgS {lo hi : Nat} {a : World} (A : Option Addr) (n c : Nat) (f : Nat → Nat) (k : Int) (w : World) (hS : Sh lo hi a w) (h : RowE 6 (EMsg lo hi) lo hi a A n f) (hn : n ≤ 1048576) (h0 : 0 ≤ k) (h1 : k + (5 * n + 2 * sm f n : Nat) ≤ 16777216) :
    Calls Tryz.prog 19 #[.slice A n c, .int .i64 k] w (WM lo hi k (5 * n + 2 * sm f n) a) :=
  ((wMsgS0 lo hi A n c f k w (h.sh EMsg.stab hS) hn h0 h1)).mono fun e w' ⟨r, h1, h2, h3, h4⟩ => ⟨r, h1, h2, h3, hS.trans h4⟩
set_option maxHeartbeats 6400000 in
theorem wMsgSS0 (lo hi : Nat) (A : Option Addr) (n c : Nat) (f : Nat → Nat) (k : Int) (w : World) (h : RowE 1 (ELink lo hi) lo hi w A n f) (hn : n ≤ 1048576) (h0 : 0 ≤ k) (h1 : k + (0 * n + 5 * sm f n : Nat) ≤ 16777216) :
    Calls Tryz.prog 38 #[.slice A n c, .int .i64 k] w (WM lo hi k (0 * n + 5 * sm f n) w) := by
  have HL := Lib.hid h; clear h
  have HM := Lib.hid (fun j => @sm_step f j n)
  have HT := Lib.hid (show ∀ j, sm f (j + 1) = sm f j + f j from fun _ => rfl)
  obtain ⟨T, hT⟩ : ∃ T, sm f n = T := ⟨_, rfl⟩
  rw [hT] at h1 HM ⊢
  have HN := Lib.hid hT; clear hT
  go_enter Tryz.func38, Tryz.ntmps38
  go_wp2
  go_loopw [1, 5] (fun kk i wr => ∃ (j : Nat) (r : Int), j ≤ n ∧ i = .int .i64 j ∧ kk = .int .i64 r ∧ k ≤ r ∧ r ≤ k + (0 * j + 5 * sm f j : Nat) ∧ Hid (Sh lo hi w wr)) (fun _ i _ => n - (intOf i).toNat)
  case atStart => exact ⟨0, k, Nat.zero_le _, rfl, rfl, by omega, by simp [sm], Sh.refl _ _ _⟩
  case round =>
    obtain ⟨j, r0, hj, rfl, rfl, hr0, hr1, hs⟩ := hrel
    by_cases hlt : j < n
    · obtain ⟨t, g, cs, rfl, hg1, hg2, hb0, hz0, hE⟩ := (HL.out.sh ELink.stab hs.out) (Nat.lt_of_le_of_lt (Nat.zero_le _) hlt)
      have he := hE j hlt
      clear HL hE
      have hms := HM.out j hlt
      have hmt := HT.out j
      obtain ⟨sj, hsj⟩ : ∃ s, sm f j = s := ⟨_, rfl⟩
      obtain ⟨fj, hfj⟩ : ∃ s, f j = s := ⟨_, rfl⟩
      rw [hsj] at hr1 hms hmt
      rw [hfj] at hms hmt he
      have HSJ := Lib.hid hsj; have HMT := Lib.hid hmt; clear hsj hfj hmt
      have hq0 : 0 ≤ r0 := by omega
      have hq1 : r0 ≤ 16777216 := by omega
      have hsz : n * 1 ≤ cs.size := hz0
      rw [Nat.mul_one] at he
      obtain ⟨B0, k0, c0, e0, kk0, f0, p0, hm0⟩ := he
      have E0 := Lib.hid e0; have K0 := Lib.hid kk0; have P0 := Lib.hid p0; clear e0 kk0 p0
      have TW0 := Lib.hid (Sh.refl lo hi wr)
      have hs0_ : cs[j]? = some (.slice B0 k0 c0) := sl_of (by rw [E0.out]; rfl)
      have hl0 := (hb0.cell (j)).trans hs0_
      have HB0 := Lib.hid hb0; clear hb0 hs0_ 
      go_wp2_with fail
      refine (wMsgS (lo := lo) (hi := hi) (a := wr) B0 k0 c0 f0 _ _ (Sh.refl lo hi wr) (P0.out.sh EMsg.stab TW0.out) K0.out (by omega) (by omega)).mono ?_
      rintro e w1 ⟨r1, rfl, hra1, hrb1, hS1⟩
      obtain ⟨cs1, hb1, hz1, hsl1⟩ := hS1.row g t cs hg1 hg2 HB0.out
      have HS1 := Lib.hid (show ∀ i : Nat, sl cs1[i]? = sl cs[i]? from fun i => hsl1 i)
      have TW1 := Lib.hid (TW0.out.trans hS1)
      clear hS1 hsl1 HB0  TW0 hl0 
      have HB1 := Lib.hid hb1; clear hb1 
      go_wp2
      go_roundw
      case rel => exact ⟨j + 1, r1, by omega, by go_num, by congr 1 <;> omega, by omega, by rw [HMT.out]; omega, hs.out.trans (TW1.out.trans (Sh.refl lo hi w1))⟩
      case measure => simp [intOf]; omega
    · have hjn : j = n := by omega
      subst hjn
      rw [HN.out] at hr1
      go_wp2
      go_ret
      exact ⟨r0, rfl, hr0, hr1, hs.out⟩
theorem wMsgSS {lo hi : Nat} {a : World} (A : Option Addr) (n c : Nat) (f : Nat → Nat) (k : Int) (w : World) (hS : Sh lo hi a w) (h : RowE 1 (ELink lo hi) lo hi a A n f) (hn : n ≤ 1048576) (h0 : 0 ≤ k) (h1 : k + (0 * n + 5 * sm f n : Nat) ≤ 16777216) :
    Calls Tryz.prog 38 #[.slice A n c, .int .i64 k] w (WM lo hi k (0 * n + 5 * sm f n) a) :=
  ((wMsgSS0 lo hi A n c f k w (h.sh ELink.stab hS) hn h0 h1)).mono fun e w' ⟨r, h1, h2, h3, h4⟩ => ⟨r, h1, h2, h3, hS.trans h4⟩
end Go.Proofs.YtfdfjmibjnmhpaaGreat.V

namespace Go.Proofs.YtfdfjmibjnmhpaaGreat.V
open Go.RowKit Go.Proofs.YtfdfjmibjnmhpaaGreat.B
set_option maxHeartbeats 6400000 in
theorem wRepS0 (lo hi : Nat) (A : Option Addr) (n c : Nat) (f : Nat → Nat) (k : Int) (w : World) (h : RowE 14 (ERep lo hi) lo hi w A n f) (hn : n ≤ 1048576) (h0 : 0 ≤ k) (h1 : k + (8 * n + 3 * sm f n : Nat) ≤ 16777216) :
    Calls Tryz.prog 37 #[.slice A n c, .int .i64 k] w (WM lo hi k (8 * n + 3 * sm f n) w) := by
  have HL := Lib.hid h; clear h
  have HM := Lib.hid (fun j => @sm_step f j n)
  have HT := Lib.hid (show ∀ j, sm f (j + 1) = sm f j + f j from fun _ => rfl)
  obtain ⟨T, hT⟩ : ∃ T, sm f n = T := ⟨_, rfl⟩
  rw [hT] at h1 HM ⊢
  have HN := Lib.hid hT; clear hT
  go_enter Tryz.func37, Tryz.ntmps37
  go_wp2
  go_loopw [1, 5] (fun kk i wr => ∃ (j : Nat) (r : Int), j ≤ n ∧ i = .int .i64 j ∧ kk = .int .i64 r ∧ k ≤ r ∧ r ≤ k + (8 * j + 3 * sm f j : Nat) ∧ Hid (Sh lo hi w wr)) (fun _ i _ => n - (intOf i).toNat)
  case atStart => exact ⟨0, k, Nat.zero_le _, rfl, rfl, by omega, by simp [sm], Sh.refl _ _ _⟩
  case round =>
    obtain ⟨j, r0, hj, rfl, rfl, hr0, hr1, hs⟩ := hrel
    by_cases hlt : j < n
    · obtain ⟨t, g, cs, rfl, hg1, hg2, hb0, hz0, hE⟩ := (HL.out.sh ERep.stab hs.out) (Nat.lt_of_le_of_lt (Nat.zero_le _) hlt)
      have he := hE j hlt
      clear HL hE
      have hms := HM.out j hlt
      have hmt := HT.out j
      obtain ⟨sj, hsj⟩ : ∃ s, sm f j = s := ⟨_, rfl⟩
      obtain ⟨fj, hfj⟩ : ∃ s, f j = s := ⟨_, rfl⟩
      rw [hsj] at hr1 hms hmt
      rw [hfj] at hms hmt he
      have HSJ := Lib.hid hsj; have HMT := Lib.hid hmt; clear hsj hfj hmt
      have hq0 : 0 ≤ r0 := by omega
      have hq1 : r0 ≤ 16777216 := by omega
      have hsz : n * 14 ≤ cs.size := hz0
      obtain ⟨m0, m1, m2, m3, m4, m5, ⟨b0, b1, h5, h9, h10, h11, h12, h13⟩, hsum⟩ := he
      have NS0 := Lib.hid (show sl cs[j * 14]? = none from b0 0 (by omega))
      have NS1 := Lib.hid (show sl cs[j * 14 + 1]? = none from b0 1 (by omega))
      have NS2 := Lib.hid (show sl cs[j * 14 + 2]? = none from b0 2 (by omega))
      have NS3 := Lib.hid (show sl cs[j * 14 + 3]? = none from b0 3 (by omega))
      have NS4 := Lib.hid (show sl cs[j * 14 + 4]? = none from b0 4 (by omega))
      have NS6 := Lib.hid (show sl cs[j * 14 + 6]? = none from b1 0 (by omega))
      have NS7 := Lib.hid (show sl cs[j * 14 + 7]? = none from b1 1 (by omega))
      have NS8 := Lib.hid (show sl cs[j * 14 + 8]? = none from b1 2 (by omega))
      obtain ⟨B5, k5, c5, e5, kk5, p5, hm5⟩ := h5
      have E5 := Lib.hid e5; have K5 := Lib.hid kk5; have P5 := Lib.hid p5; clear e5 kk5 p5
      obtain ⟨B9, k9, c9, e9, kk9, p9, hm9⟩ := h9
      have E9 := Lib.hid e9; have K9 := Lib.hid kk9; have P9 := Lib.hid p9; clear e9 kk9 p9
      obtain ⟨B10, k10, c10, e10, kk10, p10, hm10⟩ := h10
      have E10 := Lib.hid e10; have K10 := Lib.hid kk10; have P10 := Lib.hid p10; clear e10 kk10 p10
      obtain ⟨B11, k11, c11, e11, kk11, p11, hm11⟩ := h11
      have E11 := Lib.hid e11; have K11 := Lib.hid kk11; have P11 := Lib.hid p11; clear e11 kk11 p11
      obtain ⟨B12, k12, c12, e12, kk12, p12, hm12⟩ := h12
      have E12 := Lib.hid e12; have K12 := Lib.hid kk12; have P12 := Lib.hid p12; clear e12 kk12 p12
      obtain ⟨B13, k13, c13, e13, kk13, f13, p13, hm13⟩ := h13
      have E13 := Lib.hid e13; have K13 := Lib.hid kk13; have P13 := Lib.hid p13; clear e13 kk13 p13
      have TW0 := Lib.hid (Sh.refl lo hi wr)
      obtain ⟨y0, hy0⟩ : ∃ y, cs[j * 14]? = some y := ⟨_, Array.getElem?_eq_getElem (by omega)⟩
      have hc0 := (hb0.cell (j * 14)).trans hy0
      have hf0 := hb0.frozen (j * 14)
      obtain ⟨y1, hy1⟩ : ∃ y, cs[j * 14 + 1]? = some y := ⟨_, Array.getElem?_eq_getElem (by omega)⟩
      have hc1 := (hb0.cell (j * 14 + 1)).trans hy1
      have hf1 := hb0.frozen (j * 14 + 1)
      obtain ⟨y2, hy2⟩ : ∃ y, cs[j * 14 + 2]? = some y := ⟨_, Array.getElem?_eq_getElem (by omega)⟩
      have hc2 := (hb0.cell (j * 14 + 2)).trans hy2
      have hf2 := hb0.frozen (j * 14 + 2)
      obtain ⟨y3, hy3⟩ : ∃ y, cs[j * 14 + 3]? = some y := ⟨_, Array.getElem?_eq_getElem (by omega)⟩
      have hc3 := (hb0.cell (j * 14 + 3)).trans hy3
      have hf3 := hb0.frozen (j * 14 + 3)
      obtain ⟨y4, hy4⟩ : ∃ y, cs[j * 14 + 4]? = some y := ⟨_, Array.getElem?_eq_getElem (by omega)⟩
      have hc4 := (hb0.cell (j * 14 + 4)).trans hy4
      have hf4 := hb0.frozen (j * 14 + 4)
      have hs5_ : cs[j * 14 + 5]? = some (.slice B5 k5 c5) := sl_of (by rw [E5.out]; rfl)
      have hl5 := (hb0.cell (j * 14 + 5)).trans hs5_
      have N0 := Lib.hid (show sl cs[j * 14]? = none by exact NS0.out)
      have N1 := Lib.hid (show sl cs[j * 14 + 1]? = none by exact NS1.out)
      have N2 := Lib.hid (show sl cs[j * 14 + 2]? = none by exact NS2.out)
      have N3 := Lib.hid (show sl cs[j * 14 + 3]? = none by exact NS3.out)
      have N4 := Lib.hid (show sl cs[j * 14 + 4]? = none by exact NS4.out)
      have HB0 := Lib.hid hb0; clear hb0 hs5_ hy0 hy1 hy2 hy3 hy4
      go_wp2_with fail
      refine (wVoteS (lo := lo) (hi := hi) (a := wr) B5 k5 c5 _ _ ((((((Sh.refl lo hi wr).put hg1 hg2 HB0.out N0.out _ rfl).put hg1 hg2 HB0.out N1.out _ rfl).put hg1 hg2 HB0.out N2.out _ rfl).put hg1 hg2 HB0.out N3.out _ rfl).put hg1 hg2 HB0.out N4.out _ rfl) (P5.out.sh TW0.out) K5.out (by omega) (by omega)).mono ?_
      rintro e w1 ⟨r1, rfl, hra1, hrb1, hS1⟩
      obtain ⟨cs1, hb1, hz1, hsl1⟩ := hS1.row g t cs hg1 hg2 HB0.out
      have HS1 := Lib.hid (show ∀ i : Nat, sl cs1[i]? = sl cs[i]? from fun i => hsl1 i)
      have TW1 := Lib.hid (TW0.out.trans hS1)
      clear hS1 hsl1 HB0  TW0 hl5 hc0 hf0 N0 hc1 hf1 N1 hc2 hf2 N2 hc3 hf3 N3 hc4 hf4 N4
      have qa1 : r0 ≤ r1 := by clear hsum; omega
      have qb1 : r1 ≤ r0 + 5 + (3 * m0 : Nat) := by clear hsum; omega
      clear hra1 hrb1 hm5
      obtain ⟨y6, hy6⟩ : ∃ y, cs1[j * 14 + 6]? = some y := ⟨_, Array.getElem?_eq_getElem (by omega)⟩
      have hc6 := (hb1.cell (j * 14 + 6)).trans hy6
      have hf6 := hb1.frozen (j * 14 + 6)
      obtain ⟨y7, hy7⟩ : ∃ y, cs1[j * 14 + 7]? = some y := ⟨_, Array.getElem?_eq_getElem (by omega)⟩
      have hc7 := (hb1.cell (j * 14 + 7)).trans hy7
      have hf7 := hb1.frozen (j * 14 + 7)
      obtain ⟨y8, hy8⟩ : ∃ y, cs1[j * 14 + 8]? = some y := ⟨_, Array.getElem?_eq_getElem (by omega)⟩
      have hc8 := (hb1.cell (j * 14 + 8)).trans hy8
      have hf8 := hb1.frozen (j * 14 + 8)
      have hs9_ : cs1[j * 14 + 9]? = some (.slice B9 k9 c9) := sl_of (by rw [HS1.out, E9.out]; rfl)
      have hl9 := (hb1.cell (j * 14 + 9)).trans hs9_
      have N6 := Lib.hid (show sl cs1[j * 14 + 6]? = none by rw [HS1.out]; exact NS6.out)
      have N7 := Lib.hid (show sl cs1[j * 14 + 7]? = none by rw [HS1.out]; exact NS7.out)
      have N8 := Lib.hid (show sl cs1[j * 14 + 8]? = none by rw [HS1.out]; exact NS8.out)
      have HB1 := Lib.hid hb1; clear hb1 hs9_ hy6 hy7 hy8
      go_wp2_with fail
      refine (wBallotS (lo := lo) (hi := hi) (a := w1) B9 k9 c9 _ _ ((((Sh.refl lo hi w1).put hg1 hg2 HB1.out N6.out _ rfl).put hg1 hg2 HB1.out N7.out _ rfl).put hg1 hg2 HB1.out N8.out _ rfl) (P9.out.sh TW1.out) K9.out (by omega) (by omega)).mono ?_
      rintro e w2 ⟨r2, rfl, hra2, hrb2, hS2⟩
      obtain ⟨cs2, hb2, hz2, hsl2⟩ := hS2.row g t cs1 hg1 hg2 HB1.out
      have HS2 := Lib.hid (show ∀ i : Nat, sl cs2[i]? = sl cs[i]? from fun i => (hsl2 i).trans (HS1.out i))
      have TW2 := Lib.hid (TW1.out.trans hS2)
      clear hS2 hsl2 HB1 HS1 TW1 hl9 hc6 hf6 N6 hc7 hf7 N7 hc8 hf8 N8
      have qa2 : r0 ≤ r2 := by clear hsum; omega
      have qb2 : r2 ≤ r0 + 8 + (3 * m0 + 3 * m1 : Nat) := by clear hsum; omega
      clear hra2 hrb2 hm9 qa1 qb1
      have hs10_ : cs2[j * 14 + 10]? = some (.slice B10 k10 c10) := sl_of (by rw [HS2.out, E10.out]; rfl)
      have hl10 := (hb2.cell (j * 14 + 10)).trans hs10_
      have HB2 := Lib.hid hb2; clear hb2 hs10_ 
      go_wp2_with fail
      refine (wBallotS (lo := lo) (hi := hi) (a := w2) B10 k10 c10 _ _ (Sh.refl lo hi w2) (P10.out.sh TW2.out) K10.out (by omega) (by omega)).mono ?_
      rintro e w3 ⟨r3, rfl, hra3, hrb3, hS3⟩
      obtain ⟨cs3, hb3, hz3, hsl3⟩ := hS3.row g t cs2 hg1 hg2 HB2.out
      have HS3 := Lib.hid (show ∀ i : Nat, sl cs3[i]? = sl cs[i]? from fun i => (hsl3 i).trans (HS2.out i))
      have TW3 := Lib.hid (TW2.out.trans hS3)
      clear hS3 hsl3 HB2 HS2 TW2 hl10 
      have qa3 : r0 ≤ r3 := by clear hsum; omega
      have qb3 : r3 ≤ r0 + 8 + (3 * m0 + 3 * m1 + 3 * m2 : Nat) := by clear hsum; omega
      clear hra3 hrb3 hm10 qa2 qb2
      have hs11_ : cs3[j * 14 + 11]? = some (.slice B11 k11 c11) := sl_of (by rw [HS3.out, E11.out]; rfl)
      have hl11 := (hb3.cell (j * 14 + 11)).trans hs11_
      have HB3 := Lib.hid hb3; clear hb3 hs11_ 
      go_wp2_with fail
      refine (wBallotS (lo := lo) (hi := hi) (a := w3) B11 k11 c11 _ _ (Sh.refl lo hi w3) (P11.out.sh TW3.out) K11.out (by omega) (by omega)).mono ?_
      rintro e w4 ⟨r4, rfl, hra4, hrb4, hS4⟩
      obtain ⟨cs4, hb4, hz4, hsl4⟩ := hS4.row g t cs3 hg1 hg2 HB3.out
      have HS4 := Lib.hid (show ∀ i : Nat, sl cs4[i]? = sl cs[i]? from fun i => (hsl4 i).trans (HS3.out i))
      have TW4 := Lib.hid (TW3.out.trans hS4)
      clear hS4 hsl4 HB3 HS3 TW3 hl11 
      have qa4 : r0 ≤ r4 := by clear hsum; omega
      have qb4 : r4 ≤ r0 + 8 + (3 * m0 + 3 * m1 + 3 * m2 + 3 * m3 : Nat) := by clear hsum; omega
      clear hra4 hrb4 hm11 qa3 qb3
      have hs12_ : cs4[j * 14 + 12]? = some (.slice B12 k12 c12) := sl_of (by rw [HS4.out, E12.out]; rfl)
      have hl12 := (hb4.cell (j * 14 + 12)).trans hs12_
      have HB4 := Lib.hid hb4; clear hb4 hs12_ 
      go_wp2_with fail
      refine (wBallotS (lo := lo) (hi := hi) (a := w4) B12 k12 c12 _ _ (Sh.refl lo hi w4) (P12.out.sh TW4.out) K12.out (by omega) (by omega)).mono ?_
      rintro e w5 ⟨r5, rfl, hra5, hrb5, hS5⟩
      obtain ⟨cs5, hb5, hz5, hsl5⟩ := hS5.row g t cs4 hg1 hg2 HB4.out
      have HS5 := Lib.hid (show ∀ i : Nat, sl cs5[i]? = sl cs[i]? from fun i => (hsl5 i).trans (HS4.out i))
      have TW5 := Lib.hid (TW4.out.trans hS5)
      clear hS5 hsl5 HB4 HS4 TW4 hl12 
      have qa5 : r0 ≤ r5 := by clear hsum; omega
      have qb5 : r5 ≤ r0 + 8 + (3 * m0 + 3 * m1 + 3 * m2 + 3 * m3 + 3 * m4 : Nat) := by clear hsum; omega
      clear hra5 hrb5 hm12 qa4 qb4
      have hs13_ : cs5[j * 14 + 13]? = some (.slice B13 k13 c13) := sl_of (by rw [HS5.out, E13.out]; rfl)
      have hl13 := (hb5.cell (j * 14 + 13)).trans hs13_
      have HB5 := Lib.hid hb5; clear hb5 hs13_ 
      go_wp2_with fail
      refine (wHeardS (lo := lo) (hi := hi) (a := w5) B13 k13 c13 f13 _ _ (Sh.refl lo hi w5) (P13.out.sh EHeard.stab TW5.out) K13.out (by omega) (by omega)).mono ?_
      rintro e w6 ⟨r6, rfl, hra6, hrb6, hS6⟩
      obtain ⟨cs6, hb6, hz6, hsl6⟩ := hS6.row g t cs5 hg1 hg2 HB5.out
      have HS6 := Lib.hid (show ∀ i : Nat, sl cs6[i]? = sl cs[i]? from fun i => (hsl6 i).trans (HS5.out i))
      have TW6 := Lib.hid (TW5.out.trans hS6)
      clear hS6 hsl6 HB5 HS5 TW5 hl13 
      have qa6 : r0 ≤ r6 := by clear hsum; omega
      have qb6 : r6 ≤ r0 + 8 + (3 * m0 + 3 * m1 + 3 * m2 + 3 * m3 + 3 * m4 + 3 * m5 : Nat) := by clear hsum; omega
      clear hra6 hrb6 hm13 qa5 qb5
      have HB6 := Lib.hid hb6; clear hb6 
      go_wp2
      go_roundw
      case rel => exact ⟨j + 1, r6, by omega, by go_num, by congr 1 <;> omega, by omega, by rw [HMT.out]; omega, hs.out.trans (TW6.out.trans (Sh.refl lo hi w6))⟩
      case measure => simp [intOf]; omega
    · have hjn : j = n := by omega
      subst hjn
      rw [HN.out] at hr1
      go_wp2
      go_ret
      exact ⟨r0, rfl, hr0, hr1, hs.out⟩
theorem wRepS {lo hi : Nat} {a : World} (A : Option Addr) (n c : Nat) (f : Nat → Nat) (k : Int) (w : World) (hS : Sh lo hi a w) (h : RowE 14 (ERep lo hi) lo hi a A n f) (hn : n ≤ 1048576) (h0 : 0 ≤ k) (h1 : k + (8 * n + 3 * sm f n : Nat) ≤ 16777216) :
    Calls Tryz.prog 37 #[.slice A n c, .int .i64 k] w (WM lo hi k (8 * n + 3 * sm f n) a) :=
  ((wRepS0 lo hi A n c f k w (h.sh ERep.stab hS) hn h0 h1)).mono fun e w' ⟨r, h1, h2, h3, h4⟩ => ⟨r, h1, h2, h3, hS.trans h4⟩
end Go.Proofs.YtfdfjmibjnmhpaaGreat.V

namespace Go.Proofs.YtfdfjmibjnmhpaaGreat.B
open Go.RowKit
theorem OwnL.leaf {s : Nat} {w : World} {lo n : Nat} {A : Option Addr} (h : OwnL s w lo A n) : Leaf s lo w.heap.size w A n := fun h0 => by
  obtain ⟨t, g, cs, e, hg, hb, hz, hc⟩ := h h0
  exact ⟨t, g, cs, e, hg, hb.lt, hb, hz, fun i hi => by obtain ⟨x, hx⟩ := hc i hi; rw [hx]; rfl⟩
theorem OwnR.row {w : World} {lo : Nat} {A : Option Addr} {ps : List Pp} (h : OwnR w lo A ps) (hf : ∀ i, i < ps.length → (ps.getD i zP).r.vs.length ≤ 1048576) : RowE 4 (EReport lo w.heap.size) lo w.heap.size w A ps.length (fun i => (ps.getD i zP).r.vs.length) := fun h0 => by
  obtain ⟨t, tv, g, cs, e, hg, hb, hc, gs, h1, _⟩ := h h0
  refine ⟨t, g, cs, e, hg, hb.lt, hb, by rw [hc.1]; omega, fun i hi => ?_⟩
  obtain ⟨c0, c1, c2, c3⟩ := hc.2 i hi
  obtain ⟨a1, a2, a3, cv, a4, a5⟩ := h1 i hi
  have hl : Leaf 2 lo w.heap.size w (ps.getD i zP).A (ps.getD i zP).r.vs.length := by rw [a2]; exact (PC.own a5 a4 (by omega)).leaf
  refine ⟨fun j hj => ?_, _, _, _, c3, hf i hi, hl, Nat.le_refl _⟩
  match j, hj with
  | 0, _ => exact (congrArg sl c0).trans rfl
  | 1, _ => exact (congrArg sl c1).trans rfl
  | 2, _ => exact (congrArg sl c2).trans rfl
theorem OI.sh {lo hi : Nat} {w w' : World} {t base : Nat} {A : Option Addr} {xs : List Int} (h : OI w t base A xs) (hs : Sh lo hi w w') (ho : ∀ g', A = some ⟨g', 0, none⟩ → g' < lo ∨ hi ≤ g') : OI w' t base A xs := by
  rcases h with h | ⟨g, cur, rfl, hg, hb, hp⟩
  · exact .inl h
  · exact .inr ⟨g, cur, rfl, hg, hb.sh hs (ho g rfl), hp⟩
theorem Below.sh {lo hi Bd : Nat} {a w w' : World} (hb : Below Bd a w) (hs : Sh lo hi w w') (hl : Bd ≤ lo) (hBd : Bd ≤ a.heap.size) : Below Bd a w' := hb.trans (hs.below hl (Nat.le_trans (by exact hBd) hb.size))
end Go.Proofs.YtfdfjmibjnmhpaaGreat.B
namespace Go.Proofs.YtfdfjmibjnmhpaaGreat.V
open Go.RowKit Go.Proofs.YtfdfjmibjnmhpaaGreat.B
theorem tv_sm (ps : List Pp) (k : Nat) : sm (fun i => (ps.getD i zP).r.vs.length) k = tv ps k := by
  induction k with
  | zero => rfl
  | succ k ih => simp only [sm, tv]; rw [ih]
theorem th_sm (hs : List Hp) (k : Nat) : sm (fun i => (hs.getD i zH).ps.length + tv (hs.getD i zH).ps (hs.getD i zH).ps.length) k = th hs k := by
  induction k with
  | zero => rfl
  | succ k ih => simp only [sm, th]; rw [ih]
theorem ownH_row {w : World} {lo : Nat} {A : Option Addr} {hs : List Hp} (h : OwnH w lo A hs) (hf : FewH hs) : RowE 2 (EHeard lo w.heap.size) lo w.heap.size w A hs.length (fun i => (hs.getD i zH).ps.length + tv (hs.getD i zH).ps (hs.getD i zH).ps.length) := fun h0 => by
  obtain ⟨t, g, cs, e, hg, hb, hz, hc⟩ := h h0
  refine ⟨t, g, cs, e, hg, hb.lt, hb, by rw [hz]; omega, fun i hi => ?_⟩
  obtain ⟨⟨c0, c1⟩, hr⟩ := hc i hi
  have hw := hf.2 i hi
  refine ⟨fun j hj => ?_, _, _, _, c1, hw.1, _, hr.row hw.2, by rw [tv_sm]; exact Nat.le_refl _⟩
  obtain rfl : j = 0 := by omega
  exact (congrArg sl c0).trans rfl
theorem tv_same {ps qs : List Pp} (e : rl qs = rl ps) (k : Nat) : tv qs k = tv ps k := by
  induction k with
  | zero => rfl
  | succ k ih => simp only [tv]; rw [ih, ← rl_at, ← rl_at, e]
theorem th_same {hs us : List Hp} (e : hl us = hl hs) (k : Nat) : th us k = th hs k := by
  induction k with
  | zero => rfl
  | succ k ih =>
    have h : hd1 (us.getD k zH) = hd1 (hs.getD k zH) := by rw [← hl_at, ← hl_at, e]
    have h2 : rl (us.getD k zH).ps = rl (hs.getD k zH).ps := congrArg Prod.snd h
    have h3 : (us.getD k zH).ps.length = (hs.getD k zH).ps.length := by rw [← rl_len, ← rl_len, h2]
    simp only [th]; rw [ih, h3, tv_same h2]
theorem tot_same {p q : Rq} (e : p.dat = q.dat) : tot p = tot q := by
  simp only [Rq.dat, Rd4.mk.injEq] at e
  obtain ⟨-, -, -, -, -, e1, -, -, -, e2, e3, e4, e5, e6⟩ := e
  have l6 : p.hs.length = q.hs.length := by rw [← hl_len, ← hl_len, e6]
  unfold tot
  rw [e1, e2, e3, e4, e5, l6, th_same e6]
theorem mI_grow (m : Int) (A : Option Addr) (c t base : Nat) (us : List Int) (w : World) (h : OI w t base A us) (hn : us.length ≤ 1048576) (h0 : 0 ≤ m) (h1 : m ≤ 16777216) :
    Calls Tryz.prog 14 #[.slice A us.length c, .int .i64 m] w fun e w' =>
      e = .returned (.int .i64 (m + us.length)) ∧ MI w' t base A us.length m ∧ ∃ row, (∀ g, row = some g → A = some ⟨g, 0, none⟩) ∧ w.grownBy w' row := by
  rcases h with ⟨rfl, rfl⟩ | ⟨g, cur, rfl, hg, hb, hp⟩
  · refine (markI_nil none c m w).mono ?_
    rintro e w' ⟨rfl, rfl⟩
    exact ⟨by simp, .inl rfl, none, by simp, World.grownBy.refl w _⟩
  · refine (markI_any g us.length c t cur m w hb hp.1 (by omega) h0 h1).mono ?_
    rintro e w' ⟨rfl, ds, hd, _, hm, hgr⟩
    exact ⟨rfl, .inr ⟨g, ds, rfl, hg, hd, hm⟩, some g, by simp, hgr⟩
theorem Below.own {w0 w w' : World} {base : Nat} {row : Option Nat} (hB : Below base w0 w) (hgr : w.grownBy w' row) (hg : ∀ g, row = some g → base ≤ g) (hz : base ≤ w0.heap.size) : Below base w0 w' :=
  hB.trans ⟨hgr.os, hgr.tape, hgr.output, hgr.size, fun i hi => hgr.block i (by have := hB.size; omega) (fun e => by have := hg i e.symm; omega)⟩
theorem Blk.own {w w' : World} {g : Nat} {t : TypeId} {cs : Array Value} {row : Option Nat} (h : Blk w g t cs) (hgr : w.grownBy w' row) (hne : row ≠ some g) : Blk w' g t cs := (hgr.block g h.lt (fun e => hne e.symm)).trans h
/-- A state's rows, as marks need them. -/
structure QSh (lo hi : Nat) (w : World) (q : Rq) : Prop where
  v : Leaf 2 lo hi w q.Av q.voted.length
  p : Leaf 3 lo hi w q.Ap q.pr.length
  o : Leaf 3 lo hi w q.Ao q.vo.length
  r : Leaf 3 lo hi w q.Ar q.re.length
  d : Leaf 3 lo hi w q.Ad q.ds.length
  h : RowE 2 (EHeard lo hi) lo hi w q.Ah q.hs.length (fun i => (q.hs.getD i zH).ps.length + tv (q.hs.getD i zH).ps (q.hs.getD i zH).ps.length)
theorem QSh.sh {lo hi : Nat} {w w' : World} {q : Rq} (h : QSh lo hi w q) (hs : Sh lo hi w w') : QSh lo hi w' q := ⟨h.v.sh hs, h.p.sh hs, h.o.sh hs, h.r.sh hs, h.d.sh hs, h.h.sh EHeard.stab hs⟩
theorem QSh.of_own {w : World} {lo : Nat} {q : Rq} (h : OwnQ w lo q) (hf : FewQ q) : QSh lo w.heap.size w q := ⟨h.v.leaf, h.p.leaf, h.o.leaf, h.r.leaf, h.d.leaf, ownH_row h.h hf.h⟩
theorem toRep_own (q : Rq) (w : World) (hr : RdQ w w.heap.size q) (hf : FewQ q) :
    Calls Tryz.prog 53 #[q.agg] w fun e w' => ∃ p : Rq, e = .returned p.agg ∧ p.dat = q.dat ∧ (RdQ w' w'.heap.size p ∧ QSh w.heap.size w'.heap.size w' p) ∧ Below w.heap.size w w' :=
  (toRep_hi q w hr hf).mono fun e w' ⟨p, h1, h2, h3, h4⟩ => ⟨p, h1, h2, ⟨h3.1.rd, QSh.of_own h3.2 (hf.same h2)⟩, h4⟩
end Go.Proofs.YtfdfjmibjnmhpaaGreat.V

namespace Go.Proofs.YtfdfjmibjnmhpaaGreat.V
open Go.RowKit Go.Proofs.YtfdfjmibjnmhpaaGreat.B
theorem tkS_sm {α : Type} (g : α → Nat) (z : α) (xs : List α) (k : Nat) : sm (fun i => g (xs.getD i z)) k = tkS g z xs k := by
  induction k with
  | zero => rfl
  | succ k ih => simp only [sm, tkS]; rw [ih]
theorem tkS_same {α : Type} (g : α → Nat) (z : α) {xs ys : List α} (h : ∀ i, g (xs.getD i z) = g (ys.getD i z)) (k : Nat) : tkS g z xs k = tkS g z ys k := by
  induction k with
  | zero => rfl
  | succ k ih => simp only [tkS]; rw [ih, h]
theorem fM_same {m m' : Mp} (e : m'.dat = m.dat) : fM m' = fM m := by
  have : m'.vs = m.vs := congrArg Md.vs e
  unfold fM; rw [this]
theorem fL_same {l l' : Lp} (e : l'.dat = l.dat) : fL l' = fL l := by
  have hl : l'.ms.length = l.ms.length := same_len (dat := Mp.dat) e
  unfold fL
  rw [hl, tkS_same fM zM (fun i => fM_same (same_at (dat := Mp.dat) (z := zM) e i))]
theorem totC_same {p q : Cq} (e : p.dat = q.dat) : totC p = totC q := by
  have e1 : p.bad = q.bad := congrArg Cd.bad e
  have e2 : p.rs.map Rq.dat = q.rs.map Rq.dat := congrArg Cd.rs e
  have e3 : p.nt.map Lp.dat = q.nt.map Lp.dat := congrArg Cd.nt e
  unfold totC
  rw [e1, same_len e2, same_len e3, tkS_same tot zQ (fun i => tot_same (same_at e2 i)), tkS_same fL zL (fun i => fL_same (same_at e3 i))]
theorem ownB_leaf {w : World} {lo : Nat} {A : Option Addr} {xs : List Bool} (h : OwnX KB w lo A xs) : Leaf 1 lo w.heap.size w A xs.length := fun h0 => by
  obtain ⟨t, g, cs, e, hg, hb, hz, hc⟩ := h h0
  refine ⟨t, g, cs, e, hg, hb.lt, hb, hz, fun i hi => ?_⟩
  have := (hc i (by omega)).1 0 (by decide)
  have e2 : cs[i]? = some (.bool (xs.getD i false)) := by simpa [KB] using this
  rw [e2]; rfl
theorem ownM_row {w : World} {lo : Nat} {A : Option Addr} {xs : List Mp} (h : OwnX KM w lo A xs) (hf : ∀ i, i < xs.length → FewM (xs.getD i zM)) : RowE 6 (EMsg lo w.heap.size) lo w.heap.size w A xs.length (fun i => fM (xs.getD i zM)) := fun h0 => by
  obtain ⟨t, g, cs, e, hg, hb, hz, hc⟩ := h h0
  refine ⟨t, g, cs, e, hg, hb.lt, hb, hz, fun i hi => ?_⟩
  obtain ⟨h1, h2⟩ := hc i hi
  refine ⟨fun j hj => ?_, _, _, _, (h1 5 (by decide) : cs[i * 6 + 5]? = _).trans rfl, hf i hi, OwnL.leaf h2, Nat.le_refl _⟩
  have h3 : cs[i * 6 + j]? = _ := h1 j (show j < 6 by omega)
  rw [h3]
  match j, hj with
  | 0, _ => rfl
  | 1, _ => rfl
  | 2, _ => rfl
  | 3, _ => rfl
  | 4, _ => rfl
theorem ownL_row {w : World} {lo : Nat} {A : Option Addr} {xs : List Lp} (h : OwnX KL w lo A xs) (hf : ∀ i, i < xs.length → FewL (xs.getD i zL)) : RowE 1 (ELink lo w.heap.size) lo w.heap.size w A xs.length (fun i => fL (xs.getD i zL)) := fun h0 => by
  obtain ⟨t, g, cs, e, hg, hb, hz, hc⟩ := h h0
  refine ⟨t, g, cs, e, hg, hb.lt, hb, hz, fun i hi => ?_⟩
  obtain ⟨h1, h2⟩ := hc i hi
  exact ⟨_, _, _, (h1 0 (by decide) : cs[i * 1 + 0]? = _).trans rfl, (hf i hi).1, _, ownM_row h2 (hf i hi).2, by rw [tkS_sm]; exact Nat.le_refl _⟩
theorem ownK_row {w : World} {lo : Nat} {A : Option Addr} {xs : List Rq} (h : OwnX KQ w lo A xs) (hf : ∀ i, i < xs.length → FewQ (xs.getD i zQ)) : RowE 14 (ERep lo w.heap.size) lo w.heap.size w A xs.length (fun i => tot (xs.getD i zQ)) := fun h0 => by
  obtain ⟨t, g, cs, e, hg, hb, hz, hc⟩ := h h0
  refine ⟨t, g, cs, e, hg, hb.lt, hb, hz, fun i hi => ?_⟩
  obtain ⟨h1, h2⟩ := hc i hi
  obtain ⟨q, hq⟩ : ∃ q, xs.getD i zQ = q := ⟨_, rfl⟩
  have fw := hf i hi
  have h3 : ∀ j, j < 14 → cs[i * 14 + j]? = (Rq.cells (xs.getD i zQ))[j]? := h1
  have h4 : OwnQ w lo (xs.getD i zQ) := h2
  rw [hq] at h3 h4 fw
  show ERep lo w.heap.size w cs (i * 14) (tot (xs.getD i zQ))
  rw [hq]
  refine ⟨q.voted.length, q.pr.length, q.vo.length, q.re.length, q.ds.length, q.hs.length + th q.hs q.hs.length, ⟨fun j hj => ?_, fun j hj => ?_, ?_, ?_, ?_, ?_, ?_, ?_⟩, by unfold tot; omega⟩
  · rw [h3 j (by omega)]
    match j, hj with
    | 0, _ => rfl
    | 1, _ => rfl
    | 2, _ => rfl
    | 3, _ => rfl
    | 4, _ => rfl
  · rw [Nat.add_assoc, h3 (6 + j) (by omega)]
    match j, hj with
    | 0, _ => rfl
    | 1, _ => rfl
    | 2, _ => rfl
  · exact ⟨_, _, _, (h3 5 (by decide)).trans rfl, fw.v, h4.v.leaf, Nat.le_refl _⟩
  · exact ⟨_, _, _, (h3 9 (by decide)).trans rfl, fw.p, h4.p.leaf, Nat.le_refl _⟩
  · exact ⟨_, _, _, (h3 10 (by decide)).trans rfl, fw.o, h4.o.leaf, Nat.le_refl _⟩
  · exact ⟨_, _, _, (h3 11 (by decide)).trans rfl, fw.r, h4.r.leaf, Nat.le_refl _⟩
  · exact ⟨_, _, _, (h3 12 (by decide)).trans rfl, fw.d, h4.d.leaf, Nat.le_refl _⟩
  · exact ⟨_, _, _, (h3 13 (by decide)).trans rfl, fw.h.1, _, ownH_row h4.h fw.h, by rw [th_sm]; exact Nat.le_refl _⟩
/-- A cluster's rows, as marks need them. -/
structure CSh (lo hi : Nat) (w : World) (q : Cq) : Prop where
  b : Leaf 1 lo hi w q.Ab q.bad.length
  r : RowE 14 (ERep lo hi) lo hi w q.Ar q.rs.length (fun i => tot (q.rs.getD i zQ))
  n : RowE 1 (ELink lo hi) lo hi w q.An q.nt.length (fun i => fL (q.nt.getD i zL))
theorem CSh.sh {lo hi : Nat} {w w' : World} {q : Cq} (h : CSh lo hi w q) (hs : Sh lo hi w w') : CSh lo hi w' q := ⟨h.b.sh hs, h.r.sh ERep.stab hs, h.n.sh ELink.stab hs⟩
theorem toCluster_shp (q : Cq) (w : World) (hr : RdC4 w w.heap.size q) (hf : FewC q) :
    Calls Tryz.prog 9 #[q.agg] w fun e w' => ∃ p : Cq, e = .returned p.agg ∧ p.dat = q.dat ∧ (RdC4 w' w'.heap.size p ∧ CSh w.heap.size w'.heap.size w' p) ∧ Below w.heap.size w w' :=
  (toCluster_own q w hr hf).mono fun e w' ⟨p, h1, h2, h3, h4⟩ => ⟨p, h1, h2, ⟨h3.1, ⟨ownB_leaf h3.2.b, ownK_row h3.2.r (hf.same h2).r.2, ownL_row h3.2.n (hf.same h2).n.2⟩⟩, h4⟩
set_option maxHeartbeats 3200000 in
theorem wCluster {lo hi : Nat} {a : World} (q : Cq) (k : Int) (w : World) (hS : Sh lo hi a w) (hh : hi ≤ a.heap.size) (hQ : CSh lo hi a q) (hf : FewC q) (ht : totC q ≤ 1048576) (h0 : 0 ≤ k) (h1 : k ≤ 1000) :
    Calls Tryz.prog 13 #[q.agg, .int .i64 k] w (WM lo hi k (8 * totC q) a) := by
  obtain ⟨T, hT⟩ : ∃ T, totC q = T := ⟨_, rfl⟩
  rw [hT] at ht ⊢
  obtain ⟨n, bad, rs, nt, Ab, Ar, An, cb, cr, cn⟩ := q
  obtain ⟨hb, hr, hn⟩ := hQ
  obtain ⟨fb, ⟨fr, _⟩, ⟨fn, _⟩⟩ := hf
  have hs1 := tkS_sm tot zQ rs rs.length
  have hs2 := tkS_sm fL zL nt nt.length
  simp only [Cq.agg, Cq.cells, totC] at *
  obtain ⟨F, hF⟩ : ∃ F : Nat → Nat, (fun i => tot (rs.getD i zQ)) = F := ⟨_, rfl⟩
  obtain ⟨G, hG⟩ : ∃ G : Nat → Nat, (fun i => fL (nt.getD i zL)) = G := ⟨_, rfl⟩
  rw [hF] at hr hs1
  rw [hG] at hn hs2
  obtain ⟨lb, elb⟩ : ∃ m, bad.length = m := ⟨_, rfl⟩
  obtain ⟨lr, elr⟩ : ∃ m, rs.length = m := ⟨_, rfl⟩
  obtain ⟨ln, eln⟩ : ∃ m, nt.length = m := ⟨_, rfl⟩
  simp only [elb, elr, eln] at *
  obtain ⟨Z, hZ⟩ : ∃ Z, sm F lr = Z := ⟨_, rfl⟩
  obtain ⟨Y, hY⟩ : ∃ Y, sm G ln = Y := ⟨_, rfl⟩
  have hZ2 := hs1.symm.trans hZ
  have hY2 := hs2.symm.trans hY
  rw [hZ2, hY2] at hT
  have HR := Lib.hid (fun (a2 : World) (h : RowE 14 (ERep lo hi) lo hi a2 Ar lr F) (k2 : Int) (W : World) (hS2 : Sh lo hi a2 W) (g0 : 0 ≤ k2) (g1 : k2 + (8 * lr + 3 * sm F lr : Nat) ≤ 16777216) => wRepS Ar lr cr F k2 W hS2 h fr g0 g1)
  have HN := Lib.hid (fun (a2 : World) (h : RowE 1 (ELink lo hi) lo hi a2 An ln G) (k2 : Int) (W : World) (hS2 : Sh lo hi a2 W) (g0 : 0 ≤ k2) (g1 : k2 + (0 * ln + 5 * sm G ln : Nat) ≤ 16777216) => wMsgSS An ln cn G k2 W hS2 h fn g0 g1)
  rw [hZ] at HR
  rw [hY] at HN
  have KB_ := Lib.hid hb; have KR_ := Lib.hid hr; have KN_ := Lib.hid hn
  clear hb hr hn hF hG hZ hY hZ2 hY2 hs1 hs2 elb elr eln
  have ka0 := Blk.new w 33 #[.int .i64 n, .slice Ab lb cb, .slice Ar lr cr, .slice An ln cn]
  have HS0 := Lib.hid (hS.on ((Below.refl w.heap.size w).alloc (Nat.le_refl _) (.cells #[.int .i64 n, .slice Ab lb cb, .slice Ar lr cr, .slice An ln cn] 33)) hh)
  have hw := hS.size
  have hhw : hi ≤ w.heap.size := Nat.le_trans hh hw
  have rk0 := ka0.rule
  go_enter Tryz.func13, Tryz.ntmps13
  go_wp2_with fail
  refine (wBoolS (lo := lo) (hi := hi) Ab lb cb _ _ (Sh.refl lo hi _) (KB_.out.sh (by exact HS0.out)) fb (by omega) (by omega)).mono ?_
  rintro e w1 ⟨r1, rfl, ra1, rb1, hs1⟩
  have ka1 := ka0.sh hs1 (.inr hhw)
  have HS1 := Lib.hid (HS0.out.trans hs1)
  clear ka0 rk0 hs1
  have rk1 := ka1.rule
  go_wp2_with fail
  refine (HR.out _ (KR_.out.sh ERep.stab (by exact HS1.out)) _ _ (Sh.refl lo hi _) (by omega) (by omega)).mono ?_
  rintro e w2 ⟨r2, rfl, ra2, rb2, hs2⟩
  have ka2 := ka1.sh hs2 (.inr hhw)
  have HS2 := Lib.hid (HS1.out.trans hs2)
  clear ka1 rk1 hs2
  have rk2 := ka2.rule
  go_wp2_with fail
  refine (HN.out _ (KN_.out.sh ELink.stab (by exact HS2.out)) _ _ (Sh.refl lo hi _) (by omega) (by omega)).mono ?_
  rintro e w3 ⟨r3, rfl, ra3, rb3, hs3⟩
  have HS3 := Lib.hid (HS2.out.trans hs3)
  go_wp2
  go_ret
  exact ⟨r3, rfl, by omega, by omega, HS3.out⟩
end Go.Proofs.YtfdfjmibjnmhpaaGreat.V

namespace Go.Proofs.YtfdfjmibjnmhpaaGreat.V
open Go.RowKit Go.Proofs.YtfdfjmibjnmhpaaGreat.B
theorem litg (W : World) (u : Value) (g : Nat) (hg : W.heap.size = g) : Reads (W.alloc (.cells #[u] 3)) (g + 1) 1 (some ⟨g, 0, none⟩) 1 [u] := by subst hg; exact lit_int W u
def vieK (rs : List Rq) (k : Nat) : List Int := (rs.take k).map Rq.view
def vieC (d : Cd) : List Int := if cluB d then d.rs.map Rd4.view else []
theorem vieK_step (rs : List Rq) (k : Nat) (h : k < rs.length) : vieK rs (k + 1) = vieK rs k ++ [(rs.getD k zQ).view] := by
  unfold vieK
  rw [take_getD rs zQ k h, List.map_append]
  rfl
theorem vieK_all (rs : List Rq) : vieK rs rs.length = (rs.map Rq.dat).map Rd4.view := by
  unfold vieK
  rw [List.take_of_length_le (Nat.le_refl _), List.map_map]
  rfl
theorem vieC_small (q : Cq) : (vieC q.dat).length ≤ 1048576 := by
  unfold vieC
  rcases h : cluB q.dat with _ | _
  · simp
  · obtain ⟨h1, h2, h3⟩ := clu_bad h
    rw [if_pos rfl, List.length_map]
    omega
theorem honC_small (q : Cq) : (honC q.dat).length ≤ 1048576 := by
  unfold honC
  rcases h : cluB q.dat with _ | _
  · simp
  · obtain ⟨h1, h2, h3⟩ := clu_bad h
    rw [if_pos rfl]
    have := honK_len q.dat.bad q.dat.bad.length
    omega
set_option maxHeartbeats 3200000 in
theorem specHonest_is (q : Cq) (w : World) (hr : RdC4 w w.heap.size q) (hf : FewC q) :
    Calls Tryz.prog 8 #[q.agg] w (NRes (honC q.dat) w) := by
  obtain ⟨i0, hi0, hz0, hz1, hz2⟩ := info_parts infoI
  obtain ⟨g, hg⟩ : ∃ g, cluB q.dat = g := ⟨_, rfl⟩
  have HC := Lib.hid (fun (W : World) (h : Below w.heap.size w W) => specClusterOk_is g q hg W ((hr.below h).more h.size) hf)
  have hz' : honC q.dat = (if g then honK q.bad q.bad.length else []) := by rw [← hg]; rfl
  have hl : g = true → q.n = (q.bad.length : Int) ∧ q.bad.length ≤ 7 := fun e => by
    obtain ⟨h1, h2, h3⟩ := clu_bad (hg.trans e)
    have h1 : (q.bad.length : Int) = q.n := h1
    have h3 : q.n = 4 ∨ q.n = 7 := h3
    omega
  rw [hz']
  obtain ⟨n, bad, rs, nt, Ab, Ar, An, cb, cr, cn⟩ := q
  obtain ⟨rb, rr, rn⟩ := hr
  simp only [Cq.agg, Cq.cells] at *
  obtain ⟨lb, elb⟩ : ∃ m, bad.length = m := ⟨_, rfl⟩
  obtain ⟨lr, elr⟩ : ∃ m, rs.length = m := ⟨_, rfl⟩
  obtain ⟨ln, eln⟩ : ∃ m, nt.length = m := ⟨_, rfl⟩
  simp only [elb, elr, eln] at HC hl ⊢
  obtain ⟨L, hL⟩ : ∃ L : List Int, (if g then honK bad lb else []) = L := ⟨_, rfl⟩
  rw [hL]
  have HLL := Lib.hid hL; clear hL
  have HL := Lib.hid hl; have ELB := Lib.hid elb; have ELR := Lib.hid elr; have RB := Lib.hid rb; have RR := Lib.hid rr
  clear hz' hl elb elr eln rb rr rn hg hf
  have ka := Blk.new w 33 #[.int .i64 n, .slice Ab lb cb, .slice Ar lr cr, .slice An ln cn]
  have hB := up_ (Below.refl w.heap.size w) (.cells #[.int .i64 n, .slice Ab lb cb, .slice Ar lr cr, .slice An ln cn] 33)
  have ra := ka.rule
  have HBX : Hid (∀ wr, Below (w.heap.size + 1) (w.alloc (.cells #[.int .i64 n, .slice Ab lb cb, .slice Ar lr cr, .slice An ln cn] 33)) wr → Blk wr w.heap.size 33 #[.int .i64 n, .slice Ab lb cb, .slice Ar lr cr, .slice An ln cn] ∧ Below w.heap.size w wr ∧ w.heap.size + 1 ≤ wr.heap.size) := fun wr h => ⟨ka.below h (by omega), Below.trans ((Below.refl _ _).alloc (Nat.le_refl _) _) (h.mono (by omega)), by have := h.size; simpa using this⟩
  go_enter Tryz.func8, Tryz.ntmps8
  go_wp2_with fail
  refine (HC.out _ hB).mono ?_
  rintro e w1 ⟨rfl, hb⟩
  have hb1 : Below (w.heap.size + 1) (w.alloc (.cells #[.int .i64 n, .slice Ab lb cb, .slice Ar lr cr, .slice An ln cn] 33)) w1 := by simpa using hb
  have ka' := ka.on hb; have hB' := on_ hB hb; clear ka hB ra hb; have ka := ka'; have hB := hB'; clear ka' hB'; have ra := ka.rule
  rcases g with _ | _
  · go_wp2
    go_ret
    have e0 : L = [] := HLL.out.symm
    rw [e0]
    exact ⟨.slice none 0 0, rfl, World.ownsRow_nil _ _ _ _, hB⟩
  · obtain ⟨hn1, hlb⟩ := HL.out rfl
    subst hn1
    clear ka hB HL HC
    go_wp2
    go_loopw [3, 4] (fun out i wr => ∃ (k : Nat) (xs : List Int), k ≤ lb ∧ i = .int .i64 k ∧ Hid (honK bad k = xs) ∧ xs.length ≤ k ∧ wr.ownsRow (w.heap.size + 1) 3 1 out xs.length (ic xs) ∧ Hid (Below (w.heap.size + 1) (w.alloc (.cells #[.int .i64 (lb : Int), .slice Ab lb cb, .slice Ar lr cr, .slice An ln cn] 33)) wr)) (fun _ i _ => lb - (intOf i).toNat)
    case atStart => exact ⟨0, [], Nat.zero_le _, rfl, rfl, Nat.le_refl _, World.ownsRow_nil _ _ _ _, hb1⟩
    case round =>
      clear ra hb1
      obtain ⟨k, xs, hk, rfl, hxs, hxl, hown, hbel⟩ := hrel
      obtain ⟨ka, hB, hsz⟩ := HBX.out wr hbel.out
      have ra := ka.rule
      by_cases hlt : k < lb
      · obtain ⟨b_, off, rfl, hb, hcs, hrv⟩ := RdK.at_ (RB.out.below hB) (k := k) (by rw [ELB.out]; omega)
        clear hrv
        change ∀ j, j < 1 → wr.cell? ⟨b_, off + k * 1 + j, none⟩ = (KB.cells (bad.getD k false))[j]? at hcs
        have hst := honK_step bad k
        rw [hxs.out] at hst
        obtain ⟨u, hu⟩ : ∃ u, bad.getD k false = u := ⟨_, rfl⟩
        rw [hu] at hcs hst
        have hc0 : wr.cell? ⟨b_, off + k, none⟩ = some (.bool u) := by have := hcs 0 (by decide); simpa [KB] using this
        have HST := Lib.hid hst
        clear hcs hu hst
        rcases u with _ | _
        · have HN : Hid (honK bad (k + 1) = xs ++ [(k : Int)]) := by show _ = _; rw [HST.out]; rfl
          go_wp2_with (at_builtin; refine wpList_append_any _ rfl (.tmp 20) (.tmp 22) 28 rfl (w.heap.size + 1) 3 i0 _ 1 8 Tryz.underlying28 hi0 hz0 hz1 hz2 rfl (by omega) u3 xs.length (ic xs) rfl (hown.alloc _) _ _ 1 1 [.int .i64 (k : Int)] rfl (lit_int _ _) (by simp [Value.oneCell']) (by simp only [maxLen]; omega) (by omega) (by simp; omega) ?_; intro v2 w2 hown2 hgr2 hat2; have hbel2 := Lib.hid ((hbel.out.alloc hsz _).grown hgr2 (by simp; omega) (fun j hj => (hown.lt j hj).1)))
          go_roundw
          case rel => exact ⟨k + 1, xs ++ [(k : Int)], by omega, by go_num, HN, by simp; omega, own_app1 hown2, hbel2⟩
          case measure => simp [intOf]; omega
        · have HN : Hid (honK bad (k + 1) = xs) := by show _ = _; rw [HST.out]; simp
          go_wp2
          go_roundw
          case rel => exact ⟨k + 1, xs, by omega, by go_num, HN, by omega, hown, hbel⟩
          case measure => simp [intOf]; omega
      · obtain rfl : k = lb := by omega
        go_wp2
        go_ret
        refine ⟨_, rfl, ?_, hB⟩
        have e0 : L = xs := by rw [← HLL.out]; exact hxs.out
        rw [e0]
        exact own_more3 hown (by omega)
set_option maxHeartbeats 3200000 in
theorem specViews_is (q : Cq) (w : World) (hr : RdC4 w w.heap.size q) (hf : FewC q) :
    Calls Tryz.prog 23 #[q.agg] w (NRes (vieC q.dat) w) := by
  obtain ⟨i0, hi0, hz0, hz1, hz2⟩ := info_parts infoI
  obtain ⟨g, hg⟩ : ∃ g, cluB q.dat = g := ⟨_, rfl⟩
  have HC := Lib.hid (fun (W : World) (h : Below w.heap.size w W) => specClusterOk_is g q hg W ((hr.below h).more h.size) hf)
  have hz' : vieC q.dat = (if g then vieK q.rs q.rs.length else []) := by rw [vieK_all, ← hg]; rfl
  have hl : g = true → q.n = (q.rs.length : Int) ∧ q.rs.length ≤ 7 := fun e => by
    obtain ⟨h1, h2, h3⟩ := clu_bad (hg.trans e)
    have h2 : ((q.rs.map Rq.dat).length : Int) = q.n := h2
    rw [List.length_map] at h2
    have h3 : q.n = 4 ∨ q.n = 7 := h3
    omega
  rw [hz']
  obtain ⟨n, bad, rs, nt, Ab, Ar, An, cb, cr, cn⟩ := q
  obtain ⟨rb, rr, rn⟩ := hr
  simp only [Cq.agg, Cq.cells] at *
  obtain ⟨lb, elb⟩ : ∃ m, bad.length = m := ⟨_, rfl⟩
  obtain ⟨lr, elr⟩ : ∃ m, rs.length = m := ⟨_, rfl⟩
  obtain ⟨ln, eln⟩ : ∃ m, nt.length = m := ⟨_, rfl⟩
  simp only [elb, elr, eln] at HC hl ⊢
  obtain ⟨L, hL⟩ : ∃ L : List Int, (if g then vieK rs lr else []) = L := ⟨_, rfl⟩
  rw [hL]
  have HLL := Lib.hid hL; clear hL
  have HL := Lib.hid hl; have ELB := Lib.hid elb; have ELR := Lib.hid elr; have RB := Lib.hid rb; have RR := Lib.hid rr
  clear hz' hl elb elr eln rb rr rn hg hf
  have ka := Blk.new w 33 #[.int .i64 n, .slice Ab lb cb, .slice Ar lr cr, .slice An ln cn]
  have hB := up_ (Below.refl w.heap.size w) (.cells #[.int .i64 n, .slice Ab lb cb, .slice Ar lr cr, .slice An ln cn] 33)
  have ra := ka.rule
  have HBX : Hid (∀ wr, Below (w.heap.size + 1) (w.alloc (.cells #[.int .i64 n, .slice Ab lb cb, .slice Ar lr cr, .slice An ln cn] 33)) wr → Blk wr w.heap.size 33 #[.int .i64 n, .slice Ab lb cb, .slice Ar lr cr, .slice An ln cn] ∧ Below w.heap.size w wr ∧ w.heap.size + 1 ≤ wr.heap.size) := fun wr h => ⟨ka.below h (by omega), Below.trans ((Below.refl _ _).alloc (Nat.le_refl _) _) (h.mono (by omega)), by have := h.size; simpa using this⟩
  go_enter Tryz.func23, Tryz.ntmps23
  go_wp2_with fail
  refine (HC.out _ hB).mono ?_
  rintro e w1 ⟨rfl, hb⟩
  have hb1 : Below (w.heap.size + 1) (w.alloc (.cells #[.int .i64 n, .slice Ab lb cb, .slice Ar lr cr, .slice An ln cn] 33)) w1 := by simpa using hb
  have ka' := ka.on hb; have hB' := on_ hB hb; clear ka hB ra hb; have ka := ka'; have hB := hB'; clear ka' hB'; have ra := ka.rule
  rcases g with _ | _
  · go_wp2
    go_ret
    have e0 : L = [] := HLL.out.symm
    rw [e0]
    exact ⟨.slice none 0 0, rfl, World.ownsRow_nil _ _ _ _, hB⟩
  · obtain ⟨hn1, hlb⟩ := HL.out rfl
    subst hn1
    clear ka hB HL HC
    go_wp2
    go_loopw [3, 4] (fun out i wr => ∃ (k : Nat) (xs : List Int), k ≤ lr ∧ i = .int .i64 k ∧ Hid (vieK rs k = xs) ∧ xs.length ≤ k ∧ wr.ownsRow (w.heap.size + 1) 3 1 out xs.length (ic xs) ∧ Hid (Below (w.heap.size + 1) (w.alloc (.cells #[.int .i64 (lr : Int), .slice Ab lb cb, .slice Ar lr cr, .slice An ln cn] 33)) wr)) (fun _ i _ => lr - (intOf i).toNat)
    case atStart => exact ⟨0, [], Nat.zero_le _, rfl, rfl, Nat.le_refl _, World.ownsRow_nil _ _ _ _, hb1⟩
    case round =>
      clear ra hb1
      obtain ⟨k, xs, hk, rfl, hxs, hxl, hown, hbel⟩ := hrel
      obtain ⟨ka, hB, hsz⟩ := HBX.out wr hbel.out
      have ra := ka.rule
      by_cases hlt : k < lr
      · obtain ⟨b_, off, rfl, hb, hcs, hrv⟩ := RdK.at_ (RR.out.below hB) (k := k) (by rw [ELR.out]; omega)
        clear hrv
        change ∀ j, j < 14 → wr.cell? ⟨b_, off + k * 14 + j, none⟩ = (Rq.cells (rs.getD k zQ))[j]? at hcs
        have hst := vieK_step rs k (by rw [ELR.out]; omega)
        rw [hxs.out] at hst
        obtain ⟨⟨qn, qid, qown, qview, qleft, qvoted, qlv, qlx, qdn, qpr, qvo, qre, qds, qhs, qAv, qAp, qAo, qAr, qAd, qAh, qcv, qcp, qco, qcr, qcd, qch⟩, hu⟩ : ∃ u, rs.getD k zQ = u := ⟨_, rfl⟩
        rw [hu] at hcs hst
        have hc3 : wr.cell? ⟨b_, off + k * 14 + 3, none⟩ = some (.int .i64 qview) := hcs 3 (by decide)
        have HN : Hid (vieK rs (k + 1) = xs ++ [qview]) := hst
        clear hcs hu hst
        go_wp2_with (at_builtin; refine wpList_append_any _ rfl (.tmp 14) (.tmp 21) 28 rfl (w.heap.size + 1) 3 i0 _ 1 8 Tryz.underlying28 hi0 hz0 hz1 hz2 rfl (by omega) u3 xs.length (ic xs) rfl (hown.alloc _) _ _ 1 1 [.int .i64 qview] rfl (lit_int _ _) (by simp [Value.oneCell']) (by simp only [maxLen]; omega) (by omega) (by simp; omega) ?_; intro v2 w2 hown2 hgr2 hat2; have hbel2 := Lib.hid ((hbel.out.alloc hsz _).grown hgr2 (by simp; omega) (fun j hj => (hown.lt j hj).1)))
        go_roundw
        case rel => exact ⟨k + 1, xs ++ [qview], by omega, by go_num, HN, by simp; omega, own_app1 hown2, hbel2⟩
        case measure => simp [intOf]; omega
      · obtain rfl : k = lr := by omega
        go_wp2
        go_ret
        refine ⟨_, rfl, ?_, hB⟩
        have e0 : L = xs := by rw [← HLL.out]; exact hxs.out
        rw [e0]
        exact own_more3 hown (by omega)
set_option maxHeartbeats 3200000 in
theorem implViews_is (q : Cq) (w : World) (hr : RdC4 w w.heap.size q) (hf : FewC q) :
    Calls Tryz.prog 24 #[q.agg] w (NRes (vieC q.dat) w) := by
  obtain ⟨i0, hi0, hz0, hz1, hz2⟩ := info_parts infoI
  obtain ⟨g, hg⟩ : ∃ g, cluB q.dat = g := ⟨_, rfl⟩
  have HC := Lib.hid (fun (W : World) (h : Below w.heap.size w W) => implClusterOk_is g q hg W ((hr.below h).more h.size) hf)
  have hz' : vieC q.dat = (if g then vieK q.rs q.rs.length else []) := by rw [vieK_all, ← hg]; rfl
  have hl : g = true → q.n = (q.rs.length : Int) ∧ q.rs.length ≤ 7 := fun e => by
    obtain ⟨h1, h2, h3⟩ := clu_bad (hg.trans e)
    have h2 : ((q.rs.map Rq.dat).length : Int) = q.n := h2
    rw [List.length_map] at h2
    have h3 : q.n = 4 ∨ q.n = 7 := h3
    omega
  rw [hz']
  obtain ⟨n, bad, rs, nt, Ab, Ar, An, cb, cr, cn⟩ := q
  obtain ⟨rb, rr, rn⟩ := hr
  simp only [Cq.agg, Cq.cells] at *
  obtain ⟨lb, elb⟩ : ∃ m, bad.length = m := ⟨_, rfl⟩
  obtain ⟨lr, elr⟩ : ∃ m, rs.length = m := ⟨_, rfl⟩
  obtain ⟨ln, eln⟩ : ∃ m, nt.length = m := ⟨_, rfl⟩
  simp only [elb, elr, eln] at HC hl ⊢
  obtain ⟨L, hL⟩ : ∃ L : List Int, (if g then vieK rs lr else []) = L := ⟨_, rfl⟩
  rw [hL]
  have HLL := Lib.hid hL; clear hL
  have HL := Lib.hid hl; have ELB := Lib.hid elb; have ELR := Lib.hid elr; have RB := Lib.hid rb; have RR := Lib.hid rr
  clear hz' hl elb elr eln rb rr rn hg hf
  have ka := Blk.new w 33 #[.int .i64 n, .slice Ab lb cb, .slice Ar lr cr, .slice An ln cn]
  have hB := up_ (Below.refl w.heap.size w) (.cells #[.int .i64 n, .slice Ab lb cb, .slice Ar lr cr, .slice An ln cn] 33)
  have ra := ka.rule
  have HBX : Hid (∀ wr, Below (w.heap.size + 1) (w.alloc (.cells #[.int .i64 n, .slice Ab lb cb, .slice Ar lr cr, .slice An ln cn] 33)) wr → Blk wr w.heap.size 33 #[.int .i64 n, .slice Ab lb cb, .slice Ar lr cr, .slice An ln cn] ∧ Below w.heap.size w wr ∧ w.heap.size + 1 ≤ wr.heap.size) := fun wr h => ⟨ka.below h (by omega), Below.trans ((Below.refl _ _).alloc (Nat.le_refl _) _) (h.mono (by omega)), by have := h.size; simpa using this⟩
  go_enter Tryz.func24, Tryz.ntmps24
  go_wp2_with fail
  refine (HC.out _ hB).mono ?_
  rintro e w1 ⟨rfl, hb⟩
  have hb1 : Below (w.heap.size + 1) (w.alloc (.cells #[.int .i64 n, .slice Ab lb cb, .slice Ar lr cr, .slice An ln cn] 33)) w1 := by simpa using hb
  have ka' := ka.on hb; have hB' := on_ hB hb; clear ka hB ra hb; have ka := ka'; have hB := hB'; clear ka' hB'; have ra := ka.rule
  rcases g with _ | _
  · go_wp2
    go_ret
    have e0 : L = [] := HLL.out.symm
    rw [e0]
    exact ⟨.slice none 0 0, rfl, World.ownsRow_nil _ _ _ _, hB⟩
  · obtain ⟨hn1, hlb⟩ := HL.out rfl
    subst hn1
    clear ka hB HL HC
    go_wp2
    go_loopw [3, 12] (fun out i wr => ∃ (k : Nat) (xs : List Int), k ≤ lr ∧ i = .int .i64 k ∧ Hid (vieK rs k = xs) ∧ xs.length ≤ k ∧ wr.ownsRow (w.heap.size + 1) 3 1 out xs.length (ic xs) ∧ Hid (Below (w.heap.size + 1) (w.alloc (.cells #[.int .i64 (lr : Int), .slice Ab lb cb, .slice Ar lr cr, .slice An ln cn] 33)) wr)) (fun _ i _ => lr - (intOf i).toNat)
    case atStart => exact ⟨0, [], Nat.zero_le _, rfl, rfl, Nat.le_refl _, World.ownsRow_nil _ _ _ _, hb1⟩
    case round =>
      clear ra hb1
      obtain ⟨k, xs, hk, rfl, hxs, hxl, hown, hbel⟩ := hrel
      obtain ⟨ka, hB, hsz⟩ := HBX.out wr hbel.out
      have ra := ka.rule
      by_cases hlt : k < lr
      · obtain ⟨b_, off, rfl, hb, hcs, hrv⟩ := RdK.at_ (RR.out.below hB) (k := k) (by rw [ELR.out]; omega)
        clear hrv
        change ∀ j, j < 14 → wr.cell? ⟨b_, off + k * 14 + j, none⟩ = (Rq.cells (rs.getD k zQ))[j]? at hcs
        have hst := vieK_step rs k (by rw [ELR.out]; omega)
        rw [hxs.out] at hst
        obtain ⟨⟨qn, qid, qown, qview, qleft, qvoted, qlv, qlx, qdn, qpr, qvo, qre, qds, qhs, qAv, qAp, qAo, qAr, qAd, qAh, qcv, qcp, qco, qcr, qcd, qch⟩, hu⟩ : ∃ u, rs.getD k zQ = u := ⟨_, rfl⟩
        rw [hu] at hcs hst
        have hc0 : wr.cell? ⟨b_, off + k * 14, none⟩ = some (.int .i64 qn) := hcs 0 (by decide)
        have hc1 : wr.cell? ⟨b_, off + k * 14 + 1, none⟩ = some (.int .i64 qid) := hcs 1 (by decide)
        have hc2 : wr.cell? ⟨b_, off + k * 14 + 2, none⟩ = some (.int .i64 qown) := hcs 2 (by decide)
        have hc3 : wr.cell? ⟨b_, off + k * 14 + 3, none⟩ = some (.int .i64 qview) := hcs 3 (by decide)
        have hc4 : wr.cell? ⟨b_, off + k * 14 + 4, none⟩ = some (.int .i64 qleft) := hcs 4 (by decide)
        have hc5 : wr.cell? ⟨b_, off + k * 14 + 5, none⟩ = some (.slice qAv qvoted.length qcv) := hcs 5 (by decide)
        have hc6 : wr.cell? ⟨b_, off + k * 14 + 6, none⟩ = some (.int .i64 qlv) := hcs 6 (by decide)
        have hc7 : wr.cell? ⟨b_, off + k * 14 + 7, none⟩ = some (.int .i64 qlx) := hcs 7 (by decide)
        have hc8 : wr.cell? ⟨b_, off + k * 14 + 8, none⟩ = some (.int .i64 qdn) := hcs 8 (by decide)
        have hc9 : wr.cell? ⟨b_, off + k * 14 + 9, none⟩ = some (.slice qAp qpr.length qcp) := hcs 9 (by decide)
        have hc10 : wr.cell? ⟨b_, off + k * 14 + 10, none⟩ = some (.slice qAo qvo.length qco) := hcs 10 (by decide)
        have hc11 : wr.cell? ⟨b_, off + k * 14 + 11, none⟩ = some (.slice qAr qre.length qcr) := hcs 11 (by decide)
        have hc12 : wr.cell? ⟨b_, off + k * 14 + 12, none⟩ = some (.slice qAd qds.length qcd) := hcs 12 (by decide)
        have hc13 : wr.cell? ⟨b_, off + k * 14 + 13, none⟩ = some (.slice qAh qhs.length qch) := hcs 13 (by decide)
        have HN : Hid (vieK rs (k + 1) = xs ++ [qview]) := hst
        clear hcs hu hst
        have kb := Blk.new wr 75 #[.int .i64 qn, .int .i64 qid, .int .i64 qown, .int .i64 qview, .int .i64 qleft, .slice qAv qvoted.length qcv, .int .i64 qlv, .int .i64 qlx, .int .i64 qdn, .slice qAp qpr.length qcp, .slice qAo qvo.length qco, .slice qAr qre.length qcr, .slice qAd qds.length qcd, .slice qAh qhs.length qch]
        have rb := kb.rule
        go_wp2_with (at_builtin; refine wpList_append_any _ rfl (.tmp 16) (.tmp 19) 28 rfl (w.heap.size + 1) 3 i0 _ 1 8 Tryz.underlying28 hi0 hz0 hz1 hz2 rfl (by omega) u3 xs.length (ic xs) rfl ((hown.alloc _).alloc _) _ _ 1 1 [.int .i64 qview] rfl (litg _ _ _ (World.size_alloc _ _)) (by simp [Value.oneCell']) (by simp only [maxLen]; omega) (by omega) (by simp; omega) ?_; intro v2 w2 hown2 hgr2 hat2; have hbel2 := Lib.hid (((hbel.out.alloc hsz _).alloc (by simp; omega) _).grown hgr2 (by simp; omega) (fun j hj => (hown.lt j hj).1)))
        go_roundw
        case rel => exact ⟨k + 1, xs ++ [qview], by omega, by go_num, HN, by simp; omega, own_app1 hown2, hbel2⟩
        case measure => simp [intOf]; omega
      · obtain rfl : k = lr := by omega
        go_wp2
        go_ret
        refine ⟨_, rfl, ?_, hB⟩
        have e0 : L = xs := by rw [← HLL.out]; exact hxs.out
        rw [e0]
        exact own_more3 hown (by omega)
end Go.Proofs.YtfdfjmibjnmhpaaGreat.V
