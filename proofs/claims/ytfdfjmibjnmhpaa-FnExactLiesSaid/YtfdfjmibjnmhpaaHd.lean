/-
  Lists of heard reports in memory: slices of a view and a slice of reports, and how they read. No statement is proved here.
-/
import Derived.Test.YtfdfjmibjnmhpaaRep2
set_option linter.unusedVariables false
set_option maxRecDepth 100000
namespace Go.Proofs.Ytfdfjmibjnmhpaa.B
open Go.RowKit

/-- What was heard of a view, and where it lies. -/
structure Hp where
  v : Int
  ps : List Pp
  A : Option Addr
  c : Nat
def zH : Hp := ⟨0, [], none, 0⟩
instance : Inhabited Hp := ⟨zH⟩
/-- The data of it. -/
def hd1 (h : Hp) : Int × List Rp := (h.v, rl h.ps)
def hl (hs : List Hp) : List (Int × List Rp) := hs.map hd1
theorem hl_len (hs : List Hp) : (hl hs).length = hs.length := by simp [hl]
theorem hl_at (hs : List Hp) (k : Nat) : (hl hs).getD k (0, []) = hd1 (hs.getD k zH) := by
  simp only [hl, List.getD_eq_getElem?_getD, List.getElem?_map]
  cases hs[k]? <;> rfl

/-- A slice value at address A reads, below block Bd, as hs. -/
def RdH (w : World) (Bd : Nat) (A : Option Addr) (hs : List Hp) : Prop :=
  0 < hs.length → ∃ b off, A = some ⟨b, off, none⟩ ∧ b < Bd ∧ ∀ i, i < hs.length → (w.cell? ⟨b, off + i * 2, none⟩ = some (.int .i64 (hs.getD i zH).v) ∧ w.cell? ⟨b, off + i * 2 + 1, none⟩ = some (.slice (hs.getD i zH).A (hs.getD i zH).ps.length (hs.getD i zH).c)) ∧ RdR w Bd (hs.getD i zH).A (hs.getD i zH).ps
section
variable {w w' : World} {Bd Bd' : Nat} {A : Option Addr} {hs : List Hp}
theorem RdH.keep (h : RdH w Bd A hs) (hk : ∀ b o, b < Bd → w'.cell? ⟨b, o, none⟩ = w.cell? ⟨b, o, none⟩) : RdH w' Bd A hs := fun hn => by
  obtain ⟨b, off, e, hb, hc⟩ := h hn
  exact ⟨b, off, e, hb, fun i hi => ⟨⟨(hk _ _ hb).trans (hc i hi).1.1, (hk _ _ hb).trans (hc i hi).1.2⟩, (hc i hi).2.keep hk⟩⟩
theorem RdH.more (h : RdH w Bd A hs) (hB : Bd ≤ Bd') : RdH w Bd' A hs := fun hn => by
  obtain ⟨b, off, e, hb, hc⟩ := h hn
  exact ⟨b, off, e, by omega, fun i hi => ⟨(hc i hi).1, (hc i hi).2.more hB⟩⟩
theorem RdH.below (h : RdH w Bd A hs) (hb : Below Bd w w') : RdH w' Bd A hs := h.keep fun _ _ hp => hb.cell hp
theorem RdH.alloc (h : RdH w Bd A hs) (hB : Bd ≤ w.heap.size) (o : Obj) : RdH (w.alloc o) Bd A hs := h.keep fun b o' hp => World.cell?_alloc_lt w o ⟨b, o', none⟩ (by simpa using (show b < w.heap.size by omega))
theorem RdH.on (h : RdH w w.heap.size A hs) (hb : Below w.heap.size w w') : RdH w' w'.heap.size A hs := (h.below hb).more hb.size
theorem RdH.up (h : RdH w w.heap.size A hs) (O : Obj) : RdH (w.alloc O) (w.alloc O).heap.size A hs := (h.alloc (Nat.le_refl _) O).more (by simp)
theorem RdH.dr (h : RdH w w.heap.size A hs) : RdH w.drew w.drew.heap.size A hs := h
theorem RdH.nil_ : RdH w Bd A [] := fun h => absurd h (by simp)
theorem RdH.at_ (h : RdH w Bd A hs) {k : Nat} (hk : k < hs.length) : ∃ b off, A = some ⟨b, off, none⟩ ∧ b < Bd ∧ w.cell? ⟨b, off + k * 2, none⟩ = some (.int .i64 (hs.getD k zH).v) ∧ w.cell? ⟨b, off + k * 2 + 1, none⟩ = some (.slice (hs.getD k zH).A (hs.getD k zH).ps.length (hs.getD k zH).c) ∧ RdR w Bd (hs.getD k zH).A (hs.getD k zH).ps := by
  obtain ⟨b, off, rfl, hb, hc⟩ := h (by omega)
  exact ⟨b, off, rfl, hb, (hc k hk).1.1, (hc k hk).1.2, (hc k hk).2⟩
end

/-- A row of numbers, s an element, in a block of its own from lo on. -/
def OwnL (s : Nat) (w : World) (lo : Nat) (A : Option Addr) (n : Nat) : Prop :=
  0 < n → ∃ (t : TypeId) (g : Nat) (cs : Array Value), A = some ⟨g, 0, none⟩ ∧ lo ≤ g ∧ Blk w g t cs ∧ n * s ≤ cs.size ∧ ∀ i, i < n * s → ∃ x : Int, cs[i]? = some (.int .i64 x)
theorem OwnL.keep {s : Nat} {w w' : World} {lo n : Nat} {A : Option Addr} (h : OwnL s w lo A n) (hk : ∀ g, lo ≤ g → g < w.heap.size → w'.heap[g]? = w.heap[g]?) : OwnL s w' lo A n := fun h0 => by
  obtain ⟨t, g, cs, e, hg, hb, r⟩ := h h0
  exact ⟨t, g, cs, e, hg, (hk g hg hb.lt).trans hb, r⟩
theorem OwnL.low {s : Nat} {w : World} {lo lo' n : Nat} {A : Option Addr} (h : OwnL s w lo A n) (hl : lo' ≤ lo) : OwnL s w lo' A n := fun h0 => by
  obtain ⟨t, g, cs, e, hg, r⟩ := h h0
  exact ⟨t, g, cs, e, by omega, r⟩
theorem PC.own {w : World} {t : TypeId} {g lo : Nat} {cs : Array Value} {vs : List (Int × Int)} (h : PC cs vs vs.length) (hb : Blk w g t cs) (hl : lo ≤ g) : OwnL 2 w lo (some ⟨g, 0, none⟩) vs.length := fun _ =>
  ⟨t, g, cs, rfl, hl, hb, by rw [h.1]; omega, fun i hi => by
    have := h.2 (i / 2) (by omega)
    rcases (by omega : i = i / 2 * 2 ∨ i = i / 2 * 2 + 1) with e | e <;> rw [e]
    · exact ⟨_, this.1⟩
    · exact ⟨_, this.2⟩⟩
/-- Reports in a block of their own from lo on, their votes behind it. -/
def OwnR (w : World) (lo : Nat) (A : Option Addr) (ps : List Pp) : Prop :=
  0 < ps.length → ∃ (t tv : TypeId) (g : Nat) (cs : Array Value), A = some ⟨g, 0, none⟩ ∧ lo ≤ g ∧ Blk w g t cs ∧ PCR cs ps ps.length ps.length ∧ Vb w tv (g + 1) ps
theorem OwnR.keep {w w' : World} {lo : Nat} {A : Option Addr} {ps : List Pp} (h : OwnR w lo A ps) (hk : ∀ g, lo ≤ g → g < w.heap.size → w'.heap[g]? = w.heap[g]?) : OwnR w' lo A ps := fun h0 => by
  obtain ⟨t, tv, g, cs, e, hg, hb, hc, hv⟩ := h h0
  exact ⟨t, tv, g, cs, e, hg, (hk g hg hb.lt).trans hb, hc, hv.keep fun g' h1 h2 => hk g' (by omega) h2⟩
theorem OwnR.low {w : World} {lo lo' : Nat} {A : Option Addr} {ps : List Pp} (h : OwnR w lo A ps) (hl : lo' ≤ lo) : OwnR w lo' A ps := fun h0 => by
  obtain ⟨t, tv, g, cs, e, hg, r⟩ := h h0
  exact ⟨t, tv, g, cs, e, by omega, r⟩
/-- A reading of reports that turns on no block below lo. -/
def HiR0 (w : World) (lo : Nat) (A : Option Addr) (ps : List Pp) : Prop :=
  ∀ w' : World, (∀ b o, lo ≤ b → b < w.heap.size → w'.cell? ⟨b, o, none⟩ = w.cell? ⟨b, o, none⟩) → RdR w' w.heap.size A ps
theorem HiR0.keep {w w1 : World} {lo : Nat} {A : Option Addr} {ps : List Pp} (h : HiR0 w lo A ps) (hs : w.heap.size ≤ w1.heap.size) (hk : ∀ b o, lo ≤ b → b < w.heap.size → w1.cell? ⟨b, o, none⟩ = w.cell? ⟨b, o, none⟩) : HiR0 w1 lo A ps := fun w' h' =>
  (h w' fun b o h1 h2 => (h' b o h1 (by omega)).trans (hk b o h1 h2)).more hs
/-- Such a reading, of rows that are their own. -/
def HiR (w : World) (lo : Nat) (A : Option Addr) (ps : List Pp) : Prop := HiR0 w lo A ps ∧ OwnR w lo A ps
theorem HiR.rd {w : World} {lo : Nat} {A : Option Addr} {ps : List Pp} (h : HiR w lo A ps) : RdR w w.heap.size A ps := h.1 w fun _ _ _ _ => rfl
theorem HiR.on {w w1 : World} {lo : Nat} {A : Option Addr} {ps : List Pp} (h : HiR w lo A ps) (hb : Below w.heap.size w w1) : HiR w1 lo A ps := ⟨h.1.keep hb.size fun b o _ h2 => hb.cell (p := ⟨b, o, none⟩) h2, h.2.keep fun g _ h2 => hb.block g h2⟩
theorem HiR.set_ {w : World} {lo : Nat} {A : Option Addr} {ps : List Pp} (h : HiR w lo A ps) {p : Addr} (hp : p.block < lo) (u : Value) : HiR (w.setCell p u) lo A ps :=
  ⟨h.1.keep (by simp [World.setCell]) fun b o h1 _ => World.cell?_setCell_other w p ⟨b, o, none⟩ u (fun e => by subst e; simp at hp; omega), h.2.keep fun g h1 _ => Below.heap_setCell w p u g (by omega)⟩
theorem HiR.low {w : World} {lo lo' : Nat} {A : Option Addr} {ps : List Pp} (h : HiR w lo A ps) (hl : lo' ≤ lo) : HiR w lo' A ps := ⟨fun w' h' => h.1 w' fun b o h1 h2 => h' b o (by omega) h2, h.2.low hl⟩
theorem HiR.nil_ {w : World} {lo : Nat} {A : Option Addr} : HiR w lo A [] := ⟨fun _ _ => RdR.nil_, fun h => absurd h (by simp)⟩
theorem PCR.hi {w : World} {t tv : TypeId} {g lo n : Nat} {cs : Array Value} {qs : List Pp} (h : PCR cs qs n n) (hq : qs.length = n) (hb : Blk w g t cs) (hv : Vb w tv (g + 1) qs) (hl : lo ≤ g) : HiR w lo (some ⟨g, 0, none⟩) qs := ⟨fun w' hk _ => by
  obtain ⟨gs, h1, h2⟩ := hv
  refine ⟨g, 0, rfl, hb.lt, fun i hi => ⟨?_, ?_⟩⟩
  · have := h.2 i (by omega)
    simp only [Nat.zero_add, hk g _ hl hb.lt, hb.cell]
    exact this
  · obtain ⟨a1, a2, a3, cs', a4, a5⟩ := h1 i hi
    rw [a2]
    have := a5.rd (Bd := w.heap.size) a4 a4.lt
    intro h0
    obtain ⟨b, off, e, hb', hc⟩ := this h0
    injection e with e
    injection e with e1 e2
    subst e1 e2
    refine ⟨_, _, rfl, hb', fun i hi => ?_⟩
    rw [hk _ _ (by omega) hb', hk _ _ (by omega) hb']
    exact hc i hi, fun _ => ⟨t, tv, g, cs, rfl, hl, hb, by rw [hq]; exact h, hv⟩⟩

/-- Two cells an element. -/
theorem twoSet {cs : Array Value} {k : Nat} {a b : Value} (hs : k * 2 + 1 < cs.size) (i : Nat) :
    ((cs.setIfInBounds (k * 2) a).setIfInBounds (k * 2 + 1) b)[i * 2]? = (if i = k then some a else cs[i * 2]?) ∧ ((cs.setIfInBounds (k * 2) a).setIfInBounds (k * 2 + 1) b)[i * 2 + 1]? = (if i = k then some b else cs[i * 2 + 1]?) := by
  by_cases e : i = k
  · subst e
    simp only [if_true]
    exact ⟨by rw [Array.getElem?_setIfInBounds_ne (by omega), Array.getElem?_setIfInBounds_self_of_lt (by omega)], by rw [Array.getElem?_setIfInBounds_self_of_lt (by simp; omega)]⟩
  · simp only [if_neg e]
    exact ⟨by rw [Array.getElem?_setIfInBounds_ne (by omega), Array.getElem?_setIfInBounds_ne (by omega)], by rw [Array.getElem?_setIfInBounds_ne (by omega), Array.getElem?_setIfInBounds_ne (by omega)]⟩

/-- The first k of n, copied to the block g. -/
def CpH (w : World) (g n : Nat) (cs : Array Value) (hs qs : List Hp) (k : Nat) : Prop :=
  qs.length = k ∧ hl qs = (hl hs).take k ∧ cs.size = n * 2 ∧ ∀ i, i < k → (cs[i * 2]? = some (.int .i64 (qs.getD i zH).v) ∧ cs[i * 2 + 1]? = some (.slice (qs.getD i zH).A (qs.getD i zH).ps.length (qs.getD i zH).c)) ∧ HiR w (g + 1) (qs.getD i zH).A (qs.getD i zH).ps
theorem CpH.zero {w : World} {g n : Nat} {cs : Array Value} {hs : List Hp} (h : cs.size = n * 2) : CpH w g n cs hs [] 0 := ⟨rfl, by simp [hl], h, fun i hi => absurd hi (by omega)⟩
theorem CpH.step {wr w1 : World} {g n : Nat} {cs : Array Value} {hs qs : List Hp} {k : Nat} (h : CpH wr g n cs hs qs k) (hk : k < n) (hn : hs.length = n) (v : Int) (ps us : List Pp) (A : Option Addr) (c : Nat)
    (hu : hd1 (hs.getD k zH) = (v, rl us)) (hb : Below wr.heap.size wr w1) (hg : HiR w1 (g + 1) A us) :
    CpH ((w1.setCell ⟨g, k * 2, none⟩ (.int .i64 v)).setCell ⟨g, k * 2 + 1, none⟩ (.slice A us.length c)) g n ((cs.setIfInBounds (k * 2) (.int .i64 v)).setIfInBounds (k * 2 + 1) (.slice A us.length c)) hs (qs ++ [⟨v, us, A, c⟩]) (k + 1) := by
  obtain ⟨h1, h2, h3, h4⟩ := h
  refine ⟨by simp [h1], ?_, by simpa using h3, fun i hi => ?_⟩
  · rw [take_getD (hl hs) (0, []) k (by rw [hl_len]; omega), hl_at, hu, ← h2]
    simp [hl, hd1]
  · have h5 := twoSet (a := .int .i64 v) (b := .slice A us.length c) (show k * 2 + 1 < cs.size by omega) i
    rw [h5.1, h5.2]
    by_cases e : i = k
    · subst e
      rw [getD_app_end h1, if_pos rfl, if_pos rfl]
      exact ⟨⟨rfl, rfl⟩, (hg.set_ (by simp) _).set_ (by simp) _⟩
    · rw [getD_app_lt (by omega), if_neg e, if_neg e]
      exact ⟨(h4 i (by omega)).1, (((h4 i (by omega)).2.on hb).set_ (by simp) _).set_ (by simp) _⟩
theorem CpH.rd {w : World} {t : TypeId} {g n : Nat} {cs : Array Value} {hs qs : List Hp} (h : CpH w g n cs hs qs n) (hb : Blk w g t cs) : RdH w w.heap.size (some ⟨g, 0, none⟩) qs := fun _ =>
  ⟨g, 0, rfl, hb.lt, fun i hi => ⟨by
    have := (h.2.2.2 i (by rw [h.1] at hi; exact hi)).1
    rw [Nat.zero_add, hb.cell, hb.cell]
    exact this, (h.2.2.2 i (by rw [h.1] at hi; exact hi)).2.rd⟩⟩
/-- What was heard, in a block of its own from lo on, the reports behind it. -/
def OwnH (w : World) (lo : Nat) (A : Option Addr) (hs : List Hp) : Prop :=
  0 < hs.length → ∃ (t : TypeId) (g : Nat) (cs : Array Value), A = some ⟨g, 0, none⟩ ∧ lo ≤ g ∧ Blk w g t cs ∧ cs.size = hs.length * 2 ∧ ∀ i, i < hs.length → (cs[i * 2]? = some (.int .i64 (hs.getD i zH).v) ∧ cs[i * 2 + 1]? = some (.slice (hs.getD i zH).A (hs.getD i zH).ps.length (hs.getD i zH).c)) ∧ OwnR w lo (hs.getD i zH).A (hs.getD i zH).ps
theorem OwnH.keep {w w' : World} {lo : Nat} {A : Option Addr} {hs : List Hp} (h : OwnH w lo A hs) (hk : ∀ g, lo ≤ g → g < w.heap.size → w'.heap[g]? = w.heap[g]?) : OwnH w' lo A hs := fun h0 => by
  obtain ⟨t, g, cs, e, hg, hb, hz, hc⟩ := h h0
  exact ⟨t, g, cs, e, hg, (hk g hg hb.lt).trans hb, hz, fun i hi => ⟨(hc i hi).1, (hc i hi).2.keep hk⟩⟩
theorem OwnH.low {w : World} {lo lo' : Nat} {A : Option Addr} {hs : List Hp} (h : OwnH w lo A hs) (hl : lo' ≤ lo) : OwnH w lo' A hs := fun h0 => by
  obtain ⟨t, g, cs, e, hg, hb, hz, hc⟩ := h h0
  exact ⟨t, g, cs, e, by omega, hb, hz, fun i hi => ⟨(hc i hi).1, (hc i hi).2.low hl⟩⟩
theorem CpH.same {w : World} {g n : Nat} {cs : Array Value} {hs qs : List Hp} (h : CpH w g n cs hs qs n) (hn : hs.length = n) : hl qs = hl hs := by
  rw [h.2.1, List.take_of_length_le (by rw [hl_len]; omega)]
end Go.Proofs.Ytfdfjmibjnmhpaa.B

namespace Go.Proofs.Ytfdfjmibjnmhpaa.V
open Go.RowKit Go.Proofs.Ytfdfjmibjnmhpaa.B
/-- How much the first k of hs hold. -/
def th (hs : List Hp) : Nat → Nat
  | 0 => 0
  | k + 1 => th hs k + ((hs.getD k zH).ps.length + tv (hs.getD k zH).ps (hs.getD k zH).ps.length)
theorem th_mono (hs : List Hp) {i j : Nat} (h : i ≤ j) : th hs i ≤ th hs j := by
  induction j with
  | zero => obtain rfl : i = 0 := by omega
            exact Nat.le_refl _
  | succ j ih =>
    by_cases e : i = j + 1
    · subst e; exact Nat.le_refl _
    · have := ih (by omega)
      simp only [th]; omega
theorem th_one (hs : List Hp) {i j : Nat} (h : i < j) : (hs.getD i zH).ps.length + tv (hs.getD i zH).ps (hs.getD i zH).ps.length ≤ th hs j := by
  have := th_mono hs (show i + 1 ≤ j by omega)
  simp only [th] at this
  omega
/-- All lengths are ones that memory can hold. -/
def Lens (hs : List Hp) : Prop := hs.length ≤ maxLen ∧ ∀ i, i < hs.length → (hs.getD i zH).ps.length ≤ maxLen ∧ ∀ j, j < (hs.getD i zH).ps.length → ((hs.getD i zH).ps.getD j zP).r.vs.length ≤ maxLen
/-- What 'few' says of what was heard. -/
def FewH (hs : List Hp) : Prop := hs.length ≤ 1048576 ∧ ∀ i, i < hs.length → Few (hs.getD i zH).ps
theorem fewH_of {hs : List Hp} (h : hs.length + th hs hs.length ≤ 1048576) : FewH hs := ⟨by omega, fun i hi => few_of (by have := th_one hs hi; omega)⟩
theorem FewH.same {hs qs : List Hp} (h : FewH hs) (e : hl qs = hl hs) : FewH qs ∧ qs.length = hs.length := by
  have hl' : qs.length = hs.length := by rw [← hl_len, e, hl_len]
  refine ⟨⟨by rw [hl']; exact h.1, fun i hi => ?_⟩, hl'⟩
  have : hd1 (qs.getD i zH) = hd1 (hs.getD i zH) := by rw [← hl_at, e, hl_at]
  exact ((h.2 i (by omega)).same (Prod.mk.inj this).2).1

theorem szHeard_any (v : Int) (A : Option Addr) (c : Nat) (ps : List Pp) (left : Int) (w : World) (hr : RdR w w.heap.size A ps) (hn : ps.length ≤ maxLen) (hv : ∀ i, i < ps.length → (ps.getD i zP).r.vs.length ≤ maxLen) (h0 : 0 ≤ left) (h1 : left ≤ 1048576) :
    Calls Try.prog 69 #[.agg #[.int .i64 v, .slice A ps.length c], .int .i64 left] w fun e w' => e = .returned (.int .i64 (if left < (ps.length : Int) + (tv ps ps.length : Int) then -1 else left - ps.length - tv ps ps.length)) ∧ Below w.heap.size w w' := by
  have hr1 := hr.up (.cells #[.int .i64 v, .slice A ps.length c] 113)
  have hc := szReportS_any A c ps left _ hr1 hn hv h0 h1
  obtain ⟨n, hvn⟩ : ∃ n, ps.length = n := ⟨_, rfl⟩
  obtain ⟨m, hvm⟩ : ∃ m, tv ps ps.length = m := ⟨_, rfl⟩
  rw [hvm] at hc ⊢
  rw [hvn] at hc ⊢
  rw [hvn] at hn hr1
  clear hr1 hr hv hvn hvm
  unfold maxLen at hn
  by_cases h : left < (n : Int) + (m : Int)
  · rw [if_pos h] at hc ⊢
    have HC := Lib.hid hc; clear hc
    go_enter Try.func69, Try.ntmps69
    go_wp2_with fail
    refine HC.out.mono ?_
    rintro e w1 ⟨rfl, hb1⟩
    have hB := on_ (up_ (Below.refl w.heap.size w) _) hb1
    clear hb1
    go_wp2
    go_ret
    exact ⟨rfl, hB⟩
  · rw [if_neg h] at hc ⊢
    obtain ⟨z, hz⟩ : ∃ z : Int, left - n - m = z := ⟨_, rfl⟩
    rw [hz] at hc ⊢
    have hz0 : 0 ≤ z := by omega
    have hz1 : z ≤ 1048576 := by omega
    have HC := Lib.hid hc; clear hc hz
    go_enter Try.func69, Try.ntmps69
    go_wp2_with fail
    refine HC.out.mono ?_
    rintro e w1 ⟨rfl, hb1⟩
    have hB := on_ (up_ (Below.refl w.heap.size w) _) hb1
    clear hb1
    go_wp2
    go_ret
    exact ⟨rfl, hB⟩

set_option maxHeartbeats 800000 in
theorem szHeardS_any (A : Option Addr) (c : Nat) (hs : List Hp) (left : Int) (w : World) (hr : RdH w w.heap.size A hs) (hL : Lens hs) (h0 : 0 ≤ left) (h1 : left ≤ 1048576) :
    Calls Try.prog 35 #[.slice A hs.length c, .int .i64 left] w fun e w' => e = .returned (.int .i64 (if left < (hs.length : Int) + (th hs hs.length : Int) then -1 else left - hs.length - th hs hs.length)) ∧ Below w.heap.size w w' := by
  obtain ⟨hn, hv⟩ := hL
  have hm := fun i => @th_mono hs i hs.length
  obtain ⟨n, hvn⟩ : ∃ n, hs.length = n := ⟨_, rfl⟩
  rw [hvn] at hn hv hm ⊢
  unfold maxLen at hn
  have HM := Lib.hid hm; clear hm
  have HVL := Lib.hid hv; clear hv
  have HV := Lib.hid hvn; clear hvn
  obtain ⟨z, hz⟩ : ∃ z : Int, (if left < (n : Int) + (th hs n : Int) then -1 else left - n - th hs n) = z := ⟨_, rfl⟩
  rw [hz]
  have HZ := Lib.hid hz; clear hz
  by_cases hneg : left < n
  · have hz : z = -1 := by rw [← HZ.out, if_pos (by omega)]
    subst hz
    go_enter Try.func35, Try.ntmps35
    go_wp2
    go_ret
    exact ⟨rfl, Below.refl _ _⟩
  · have hnn : ¬ (left - n < 0) := by omega
    go_enter Try.func35, Try.ntmps35
    go_wp2
    go_loopw [1, 5] (fun l i wr => ∃ (k : Nat) (y : Int), k ≤ n ∧ i = .int .i64 k ∧ l = .int .i64 y ∧ 0 ≤ y ∧ y ≤ 1048576 ∧ Hid (y = left - n - th hs k) ∧ Below w.heap.size w wr) (fun _ i _ => n - (intOf i).toNat)
    case atStart => exact ⟨0, left - n, Nat.zero_le _, rfl, rfl, by omega, by omega, by show _ = _; simp [th], Below.refl _ _⟩
    case round =>
      obtain ⟨k, y, hk, rfl, rfl, hy0, hy1, hy, hbel⟩ := hrel
      by_cases hlt : k < n
      · obtain ⟨b, off, rfl, hb, hc0, hc1, hrv⟩ := RdH.at_ (hr.below hbel) (k := k) (by rw [HV.out]; omega)
        clear hr
        have hvl := HVL.out k hlt
        have hst : th hs (k + 1) = th hs k + ((hs.getD k zH).ps.length + tv (hs.getD k zH).ps (hs.getD k zH).ps.length) := rfl
        have hmm := HM.out (k + 1) (by omega)
        obtain ⟨⟨v, ps, A', c'⟩, hu⟩ : ∃ u, hs.getD k zH = u := ⟨_, rfl⟩
        rw [hu] at hc0 hc1 hvl hst hrv
        simp only at hvl hst hc0 hc1 hrv
        clear hu
        have hcl := szHeard_any v A' c' ps y wr (hrv.more hbel.size) hvl.1 hvl.2 hy0 hy1
        obtain ⟨m, hm⟩ : ∃ m, tv ps ps.length = m := ⟨_, rfl⟩
        rw [hm] at hcl hst
        obtain ⟨q, hq⟩ : ∃ q, ps.length = q := ⟨_, rfl⟩
        have hql := hvl.1
        rw [hq] at hcl hst hc1 hql
        have HS : Hid (th hs (k + 1) = th hs k + (q + m) ∧ th hs (k + 1) ≤ th hs n) := ⟨hst, hmm⟩
        clear hst hmm hm hvl hrv hq
        unfold maxLen at hql
        by_cases hsm : y < (q : Int) + (m : Int)
        · rw [if_pos hsm] at hcl
          have HC := Lib.hid hcl; clear hcl
          go_wp2_with fail
          refine HC.out.mono ?_
          rintro e w1 ⟨rfl, hb1⟩
          go_wp2
          go_ret
          obtain ⟨h2, h3⟩ := HS.out
          have h4 := hy.out
          exact ⟨ret_int2 (by rw [← HZ.out, if_pos (by omega)]), hbel.trans (hb1.mono hbel.size)⟩
        · rw [if_neg hsm] at hcl
          obtain ⟨z2, hz2⟩ : ∃ z : Int, y - q - m = z := ⟨_, rfl⟩
          rw [hz2] at hcl
          have HC := Lib.hid hcl; clear hcl
          have hz20 : 0 ≤ z2 := by omega
          have hz21 : z2 ≤ 1048576 := by omega
          have hnn2 : ¬ (z2 < 0) := by omega
          have HZ2 := Lib.hid hz2; clear hz2
          go_wp2_with fail
          refine HC.out.mono ?_
          rintro e w1 ⟨rfl, hb1⟩
          go_wp2
          go_roundw
          case rel =>
            refine ⟨k + 1, _, by omega, by go_num, rfl, hz20, hz21, ?_, hbel.trans (hb1.mono hbel.size)⟩
            have h2 := HS.out
            have h4 := hy.out
            have h5 := HZ2.out
            show _ = _
            omega
          case measure => simp [intOf]; omega
      · go_wp2
        go_ret
        have hkn : k = n := by omega
        subst hkn
        have h4 := hy.out
        exact ⟨ret_int2 (by rw [← HZ.out, if_neg (by omega), ← h4]), hbel⟩
end Go.Proofs.Ytfdfjmibjnmhpaa.V
