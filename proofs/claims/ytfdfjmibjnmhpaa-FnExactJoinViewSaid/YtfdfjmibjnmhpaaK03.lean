/-
  Slices of ballots: how they read, and what the helpers of the laws do with ballots and tallies. What the helpers of the laws do with tallies: copies, comparison, marks. A replica's state as data and in memory, and what the helpers of the laws count of it, copy and compare. From a walk of a law ('it returns true, and what was there is as it was') to the statement's own form: the arguments' reading behind the call, the frame, the result. Generic; no statement is proved here. No statement is proved here.
-/
import Derived.Test.YtfdfjmibjnmhpaaChecked
import Derived.Test.YtfdfjmibjnmhpaaK01
import Derived.StillTailTactics
import Derived.Test.YtfdfjmibjnmhpaaK02
import Derived.Carry
import Derived.ChangeSame
import Derived.Deep.SlicePairs
set_option linter.unusedVariables false
set_option maxRecDepth 100000
namespace Go.Proofs.Ytfdfjmibjnmhpaa.B
open Go.RowKit

abbrev B3 := Int × Int × Int
abbrev z3 : B3 := (0, 0, 0)
/-- A slice value at address A reads, below block Bd, as the ballots vs. -/
def Rd3 (w : World) (Bd : Nat) (A : Option Addr) (vs : List B3) : Prop :=
  0 < vs.length → ∃ b off, A = some ⟨b, off, none⟩ ∧ b < Bd ∧ ∀ i, i < vs.length → w.cell? ⟨b, off + i * 3, none⟩ = some (.int .i64 (vs.getD i z3).1) ∧ w.cell? ⟨b, off + i * 3 + 1, none⟩ = some (.int .i64 (vs.getD i z3).2.1) ∧ w.cell? ⟨b, off + i * 3 + 2, none⟩ = some (.int .i64 (vs.getD i z3).2.2)
section
variable {w w' : World} {Bd Bd' : Nat} {A : Option Addr} {vs : List B3}
theorem Rd3.keep (h : Rd3 w Bd A vs) (hk : ∀ b o, b < Bd → w'.cell? ⟨b, o, none⟩ = w.cell? ⟨b, o, none⟩) : Rd3 w' Bd A vs := fun hn => by
  obtain ⟨b, off, e, hb, hc⟩ := h hn
  exact ⟨b, off, e, hb, fun i hi => ⟨(hk _ _ hb).trans (hc i hi).1, (hk _ _ hb).trans (hc i hi).2.1, (hk _ _ hb).trans (hc i hi).2.2⟩⟩
theorem Rd3.more (h : Rd3 w Bd A vs) (hB : Bd ≤ Bd') : Rd3 w Bd' A vs := fun hn => by
  obtain ⟨b, off, e, hb, hc⟩ := h hn
  exact ⟨b, off, e, by omega, hc⟩
theorem Rd3.below (h : Rd3 w Bd A vs) (hb : Below Bd w w') : Rd3 w' Bd A vs := h.keep fun _ _ hp => hb.cell hp
theorem Rd3.alloc (h : Rd3 w Bd A vs) (hB : Bd ≤ w.heap.size) (o : Obj) : Rd3 (w.alloc o) Bd A vs := h.keep fun b o' hp => World.cell?_alloc_lt w o ⟨b, o', none⟩ (by simpa using (show b < w.heap.size by omega))
theorem Rd3.on (h : Rd3 w w.heap.size A vs) (hb : Below w.heap.size w w') : Rd3 w' w'.heap.size A vs := (h.below hb).more hb.size
theorem Rd3.up (h : Rd3 w w.heap.size A vs) (O : Obj) : Rd3 (w.alloc O) (w.alloc O).heap.size A vs := (h.alloc (Nat.le_refl _) O).more (by simp)
theorem Rd3.dr (h : Rd3 w w.heap.size A vs) : Rd3 w.drew w.drew.heap.size A vs := h
theorem Rd3.nil_ : Rd3 w Bd A [] := fun h => absurd h (by simp)
theorem Rd3.at_ (h : Rd3 w Bd A vs) {k : Nat} (hk : k < vs.length) : ∃ b off, A = some ⟨b, off, none⟩ ∧ b < Bd ∧ w.cell? ⟨b, off + k * 3, none⟩ = some (.int .i64 (vs.getD k z3).1) ∧ w.cell? ⟨b, off + k * 3 + 1, none⟩ = some (.int .i64 (vs.getD k z3).2.1) ∧ w.cell? ⟨b, off + k * 3 + 2, none⟩ = some (.int .i64 (vs.getD k z3).2.2) := by
  obtain ⟨b, off, rfl, hb, hc⟩ := h (by omega)
  exact ⟨b, off, rfl, hb, hc k hk⟩
end

/-- The first k ballots of vs stand in the cells cs, which has room for all of vs. -/
def PC3 (cs : Array Value) (vs : List B3) (k : Nat) : Prop :=
  cs.size = vs.length * 3 ∧ ∀ i, i < k → cs[i * 3]? = some (.int .i64 (vs.getD i z3).1) ∧ cs[i * 3 + 1]? = some (.int .i64 (vs.getD i z3).2.1) ∧ cs[i * 3 + 2]? = some (.int .i64 (vs.getD i z3).2.2)
theorem PC3.zero {cs : Array Value} {vs : List B3} (h : cs.size = vs.length * 3) : PC3 cs vs 0 := ⟨h, fun i hi => absurd hi (by omega)⟩
theorem three {cs : Array Value} {k : Nat} {a b c : Value} (hs : k * 3 + 2 < cs.size) (i : Nat) :
    (((cs.setIfInBounds (k * 3) a).setIfInBounds (k * 3 + 1) b).setIfInBounds (k * 3 + 2) c)[i * 3]? = (if i = k then some a else cs[i * 3]?) ∧
    (((cs.setIfInBounds (k * 3) a).setIfInBounds (k * 3 + 1) b).setIfInBounds (k * 3 + 2) c)[i * 3 + 1]? = (if i = k then some b else cs[i * 3 + 1]?) ∧
    (((cs.setIfInBounds (k * 3) a).setIfInBounds (k * 3 + 1) b).setIfInBounds (k * 3 + 2) c)[i * 3 + 2]? = (if i = k then some c else cs[i * 3 + 2]?) := by
  by_cases e : i = k
  · subst e
    simp only [if_true]
    refine ⟨?_, ?_, ?_⟩
    · rw [Array.getElem?_setIfInBounds_ne (by omega), Array.getElem?_setIfInBounds_ne (by omega), Array.getElem?_setIfInBounds_self_of_lt (by omega)]
    · rw [Array.getElem?_setIfInBounds_ne (by omega), Array.getElem?_setIfInBounds_self_of_lt (by simp; omega)]
    · rw [Array.getElem?_setIfInBounds_self_of_lt (by simp; omega)]
  · simp only [if_neg e]
    refine ⟨?_, ?_, ?_⟩ <;> rw [Array.getElem?_setIfInBounds_ne (by omega), Array.getElem?_setIfInBounds_ne (by omega), Array.getElem?_setIfInBounds_ne (by omega)]
theorem PC3.step {cs : Array Value} {vs : List B3} {k : Nat} (h : PC3 cs vs k) (hk : k < vs.length) :
    PC3 (((cs.setIfInBounds (k * 3) (.int .i64 (vs.getD k z3).1)).setIfInBounds (k * 3 + 1) (.int .i64 (vs.getD k z3).2.1)).setIfInBounds (k * 3 + 2) (.int .i64 (vs.getD k z3).2.2)) vs (k + 1) := by
  refine ⟨by simpa using h.1, fun i hi => ?_⟩
  have hs := h.1
  obtain ⟨h0, h1, h2⟩ := three (a := .int .i64 (vs.getD k z3).1) (b := .int .i64 (vs.getD k z3).2.1) (c := .int .i64 (vs.getD k z3).2.2) (show k * 3 + 2 < cs.size by omega) i
  rw [h0, h1, h2]
  by_cases e : i = k
  · subst e; simp
  · simp only [if_neg e]; exact h.2 i (by omega)
theorem PC3.rd {w : World} {g t Bd : Nat} {cs : Array Value} {vs : List B3} (h : PC3 cs vs vs.length) (hb : Blk w g t cs) (hg : g < Bd) : Rd3 w Bd (some ⟨g, 0, none⟩) vs :=
  fun _ => ⟨g, 0, rfl, hg, fun i hi => by
    have := h.2 i hi
    rw [Nat.zero_add, hb.cell, hb.cell, hb.cell]; exact this⟩

/-- The first n ballots bear the marks k, k + 1, .. -/
def MK3 (cs : Array Value) (k : Int) (n : Nat) : Prop :=
  ∀ i, i < n → cs[i * 3]? = some (.int .i64 (k + 3 * i)) ∧ cs[i * 3 + 1]? = some (.int .i64 (k + 3 * i + 1)) ∧ cs[i * 3 + 2]? = some (.int .i64 (k + 3 * i + 1 + 1))
theorem MK3.step {cs : Array Value} {k : Int} {j : Nat} (h : MK3 cs k j) (hs : j * 3 + 2 < cs.size) :
    MK3 (((cs.setIfInBounds (j * 3) (.int .i64 (k + 3 * j))).setIfInBounds (j * 3 + 1) (.int .i64 (k + 3 * j + 1))).setIfInBounds (j * 3 + 2) (.int .i64 (k + 3 * j + 1 + 1))) k (j + 1) := by
  intro i hi
  obtain ⟨h0, h1, h2⟩ := three (a := .int .i64 (k + 3 * j)) (b := .int .i64 (k + 3 * j + 1)) (c := .int .i64 (k + 3 * j + 1 + 1)) hs i
  rw [h0, h1, h2]
  by_cases e : i = j
  · subst e; simp
  · simp only [if_neg e]; exact h i (by omega)
end Go.Proofs.Ytfdfjmibjnmhpaa.B

namespace Go.Proofs.Ytfdfjmibjnmhpaa.V
open Go.RowKit Go.Proofs.Ytfdfjmibjnmhpaa.B
theorem ret_boolB {a b : Bool} (h : a = b) : Ending.returned (.bool a) = .returned (.bool b) := by rw [h]

theorem toBallot_any (a b c : Int) (w : World) :
    Calls Try.prog 105 #[.agg #[.int .i64 a, .int .i64 b, .int .i64 c]] w fun e w' => e = .returned (.agg #[.int .i64 a, .int .i64 b, .int .i64 c]) ∧ Below w.heap.size w w' := by
  go_enter Try.func105, Try.ntmps105
  go_wp2
  refine bodyPost_ret (v := .agg #[.int .i64 a, .int .i64 b, .int .i64 c]) (by simp [results, Try.results105, go_sem]) rfl ⟨rfl, ?_⟩
  repeat (first | exact Below.refl _ _ | refine Below.alloc ?_ (by simp <;> omega) _)

theorem eqBallot_same (a b c : Int) (w : World) :
    Calls Try.prog 115 #[.agg #[.int .i64 a, .int .i64 b, .int .i64 c], .agg #[.int .i64 a, .int .i64 b, .int .i64 c]] w fun e w' => e = .returned (.bool true) ∧ Below w.heap.size w w' := by
  have hne : ∀ i : Int, (i != i) = false := fun i => by simp
  go_enter Try.func115, Try.ntmps115
  go_wp2
  go_ret
  exact ⟨rfl, by repeat (first | exact Below.refl _ _ | refine Below.alloc ?_ (by simp) _)⟩

theorem szB_any (A : Option Addr) (n c : Nat) (left : Int) (w : World) (hn : n ≤ maxLen) (h0 : 0 ≤ left) (h1 : left ≤ 1048576) :
    Calls Try.prog 68 #[.slice A n c, .int .i64 left] w fun e w' => e = .returned (.int .i64 (if left < n then -1 else left - n)) ∧ w = w' := by
  unfold maxLen at hn
  by_cases h : left < n
  · rw [if_pos h]
    go_enter Try.func68, Try.ntmps68
    go_wp2
    go_ret
    exact ⟨rfl, rfl⟩
  · rw [if_neg h]
    go_enter Try.func68, Try.ntmps68
    go_wp2
    go_ret
    exact ⟨rfl, rfl⟩

theorem szTally_big (A : Option Addr) (n c : Nat) (left : Int) (w : World) (hn : n ≤ maxLen) (h0 : 0 ≤ left) (h1 : left ≤ 1048576) (h : left < n) :
    Calls Try.prog 34 #[.agg #[.slice A n c], .int .i64 left] w fun e w' => e = .returned (.int .i64 (-1)) ∧ Below w.heap.size w w' := by
  have hc : ∀ W, Calls Try.prog 68 #[.slice A n c, .int .i64 left] W fun e w' => e = .returned (.int .i64 (-1)) ∧ W = w' := fun W => by
    have := szB_any A n c left W hn h0 h1
    rwa [if_pos h] at this
  have HC := Lib.hid hc; clear hc
  go_enter Try.func34, Try.ntmps34
  go_wp2_with (go_at_call 68; refine (HC.out _).mono ?_; rintro e w1 ⟨rfl, rfl⟩)
  go_ret
  exact ⟨rfl, (Below.refl _ _).alloc (Nat.le_refl _) _⟩
theorem szTally_small (A : Option Addr) (n c : Nat) (left : Int) (w : World) (hn : n ≤ maxLen) (h0 : 0 ≤ left) (h1 : left ≤ 1048576) (h : (n : Int) ≤ left) :
    Calls Try.prog 34 #[.agg #[.slice A n c], .int .i64 left] w fun e w' => e = .returned (.int .i64 (left - n)) ∧ Below w.heap.size w w' := by
  have hc : ∀ W, Calls Try.prog 68 #[.slice A n c, .int .i64 left] W fun e w' => e = .returned (.int .i64 (left - n)) ∧ W = w' := fun W => by
    have := szB_any A n c left W hn h0 h1
    rwa [if_neg (by omega)] at this
  have HC := Lib.hid hc; clear hc
  go_enter Try.func34, Try.ntmps34
  go_wp2_with (go_at_call 68; refine (HC.out _).mono ?_; rintro e w1 ⟨rfl, rfl⟩)
  go_ret
  exact ⟨rfl, (Below.refl _ _).alloc (Nat.le_refl _) _⟩

theorem infoB3 : (Try.prog.info? 119).map (fun i => (i.zero, i.size, i.bytes)) = some (some (.agg #[.int .i64 0, .int .i64 0, .int .i64 0]), 3, 24) := by kernel_rfl

set_option maxHeartbeats 800000 in
theorem toBallotS_any (A : Option Addr) (c : Nat) (vs : List B3) (w : World) (hr : Rd3 w w.heap.size A vs) (hn : vs.length ≤ 1048576) :
    Calls Try.prog 78 #[.slice A vs.length c] w fun e w' => ∃ g cs, e = .returned (.slice (some ⟨g, 0, none⟩) vs.length vs.length) ∧ w.heap.size ≤ g ∧ Blk w' g 119 cs ∧ PC3 cs vs vs.length ∧ Below w.heap.size w w' := by
  obtain ⟨i0, hi, hz0, hz1, hz2⟩ := info_parts infoB3
  have hmk : ∀ u : World, (Instr.makeSlice 35 (.int .i64 (vs.length : Int)) (.int .i64 (vs.length : Int))).run Try.prog u =
      .ok (.slice (some ⟨u.heap.size, 0, none⟩) vs.length vs.length) (u.alloc (.cells (madeCells #[.int .i64 0, .int .i64 0, .int .i64 0] (vs.length * 3)) 119)) := fun u => by
    have h := run_make_rowN (P := Try.prog) 35 119 i0 (.agg #[.int .i64 0, .int .i64 0, .int .i64 0]) Try.underlying35 hi hz0 .i64 .i64 vs.length vs.length (Nat.le_refl _) (by rw [hz2]; omega) (by omega) u
    rw [h, hz1]; rfl
  clear hz2 hz1 hz0 hi
  obtain ⟨n, hvn⟩ : ∃ n, vs.length = n := ⟨_, rfl⟩
  rw [hvn] at hn hmk ⊢
  go_enter Try.func78, Try.ntmps78
  go_wp2
  have HV := Lib.hid hvn; clear hvn
  go_loopw [4] (fun i wr => ∃ (k : Nat) (cs : Array Value), k ≤ n ∧ i = .int .i64 k ∧ Blk wr w.heap.size 119 cs ∧ Hid (PC3 cs vs k) ∧ Below w.heap.size w wr) (fun i _ => n - (intOf i).toNat)
  case atStart => exact ⟨0, _, Nat.zero_le _, rfl, Blk.new _ _ _, PC3.zero (by rw [HV.out]; simp [madeCells]), (Below.refl _ _).alloc (Nat.le_refl _) _⟩
  case round =>
    obtain ⟨k, cs, hk, rfl, hblk, hpc, hbel⟩ := hrel
    by_cases hlt : k < n
    · obtain ⟨b, off, rfl, hb, hc0, hc1, hc2⟩ := Rd3.at_ (hr.below hbel) (k := k) (by rw [HV.out]; omega)
      clear hr
      have hsz : cs.size = n * 3 := by rw [hpc.out.1, HV.out]
      obtain ⟨x0, hx0⟩ : ∃ x, cs[k * 3]? = some x := ⟨_, Array.getElem?_eq_getElem (by omega)⟩
      obtain ⟨x1, hx1⟩ : ∃ x, cs[k * 3 + 1]? = some x := ⟨_, Array.getElem?_eq_getElem (by omega)⟩
      obtain ⟨x2, hx2⟩ : ∃ x, cs[k * 3 + 2]? = some x := ⟨_, Array.getElem?_eq_getElem (by omega)⟩
      have HX0 := Lib.hid hx0
      have HX1 := Lib.hid hx1
      have HX2 := Lib.hid hx2
      have HP : Hid (PC3 (((cs.setIfInBounds (k * 3) (.int .i64 (vs.getD k z3).1)).setIfInBounds (k * 3 + 1) (.int .i64 (vs.getD k z3).2.1)).setIfInBounds (k * 3 + 2) (.int .i64 (vs.getD k z3).2.2)) vs (k + 1)) := PC3.step hpc.out (by rw [HV.out]; omega)
      clear hsz hx0 hx1 hx2 hpc
      obtain ⟨⟨va, vb, vc⟩, hu⟩ : ∃ u, vs.getD k z3 = u := ⟨_, rfl⟩
      rw [hu] at hc0 hc1 hc2 HP
      clear hu
      go_wp2_with (go_at_call 105; refine (toBallot_any _ _ _ _).mono ?_; rintro e w1 ⟨rfl, hb1⟩; have hblk1 := hblk.below hb1 hblk.lt; have hf0 := hblk1.frozen (k * 3); have hf1 := hblk1.frozen (k * 3 + 1); have hf2 := hblk1.frozen (k * 3 + 2); have hy0 := (hblk1.cell (k * 3)).trans HX0.out; have hy1 := (hblk1.cell (k * 3 + 1)).trans HX1.out; have hy2 := (hblk1.cell (k * 3 + 2)).trans HX2.out)
      go_roundw
      case rel =>
        refine ⟨k + 1, _, by omega, by go_num, ((hblk1.set_ _ _).set_ _ _).set_ _ _, HP, (((hbel.trans (hb1.mono hbel.size)).setCell (Nat.le_refl _) _).setCell (Nat.le_refl _) _).setCell (Nat.le_refl _) _⟩
      case measure => simp [intOf]; omega
    · go_wp2
      go_ret
      have hkn : k = n := by omega
      subst hkn
      exact ⟨_, cs, rfl, Nat.le_refl _, hblk, hpc.out, hbel⟩
end Go.Proofs.Ytfdfjmibjnmhpaa.V

namespace Go.Proofs.Ytfdfjmibjnmhpaa.B
open Go.RowKit
end Go.Proofs.Ytfdfjmibjnmhpaa.B

namespace Go.Proofs.Ytfdfjmibjnmhpaa.V
open Go.RowKit Go.Proofs.Ytfdfjmibjnmhpaa.B

set_option maxRecDepth 100000 in
set_option maxHeartbeats 800000 in
theorem eqBallotS_same (A C : Option Addr) (c d : Nat) (vs : List B3) (w : World) (hr : Rd3 w w.heap.size A vs) (hs : Rd3 w w.heap.size C vs) (hn : vs.length ≤ 1048576) :
    Calls Try.prog 90 #[.slice A vs.length c, .slice C vs.length d] w fun e w' => e = .returned (.bool true) ∧ Below w.heap.size w w' := by
  obtain ⟨n, hvn⟩ : ∃ n, vs.length = n := ⟨_, rfl⟩
  rw [hvn] at hn ⊢
  have HV := Lib.hid hvn; clear hvn
  have hne : ∀ i : Int, (i != i) = false := fun i => by simp
  go_enter Try.func90, Try.ntmps90
  go_wp2
  go_loopw [5] (fun i wr => ∃ (k : Nat), k ≤ n ∧ i = .int .i64 k ∧ Below w.heap.size w wr) (fun i _ => n - (intOf i).toNat)
  case atStart => exact ⟨0, Nat.zero_le _, rfl, Below.refl _ _⟩
  case round =>
    obtain ⟨k, hk, rfl, hbel⟩ := hrel
    by_cases hlt : k < n
    · obtain ⟨b, off, rfl, hb, hc0, hc1, hc2⟩ := Rd3.at_ (hr.below hbel) (k := k) (by rw [HV.out]; omega)
      obtain ⟨b', off', rfl, hb', hc0', hc1', hc2'⟩ := Rd3.at_ (hs.below hbel) (k := k) (by rw [HV.out]; omega)
      clear hr hs
      obtain ⟨⟨va, vb, vc⟩, hu⟩ : ∃ u, vs.getD k z3 = u := ⟨_, rfl⟩
      rw [hu] at hc0 hc1 hc2 hc0' hc1' hc2'
      clear hu
      go_wp2
      go_still_tail 8, (by kernel_rfl)
      have hbd : Below w.heap.size w wr.drew := hbel.drew
      change wpList _ _ _ _ _ wr.drew
      generalize wr.drew = w2 at *
      go_wp2_with (go_at_call 115; refine (eqBallot_same _ _ _ _).mono ?_; rintro e w1 ⟨rfl, hb1⟩)
      go_roundw
      case rel => exact ⟨k + 1, by omega, by go_num, hbd.trans (hb1.mono hbd.size)⟩
      case measure => simp [intOf]; omega
    · go_wp2
      go_ret
      exact ⟨rfl, hbel⟩

theorem toTally_any (A : Option Addr) (c : Nat) (vs : List B3) (w : World) (hr : Rd3 w w.heap.size A vs) (hn : vs.length ≤ 1048576) :
    Calls Try.prog 40 #[.agg #[.slice A vs.length c]] w fun e w' => ∃ g cs, e = .returned (.agg #[.slice (some ⟨g, 0, none⟩) vs.length vs.length]) ∧ w.heap.size ≤ g ∧ Blk w' g 119 cs ∧ PC3 cs vs vs.length ∧ Below w.heap.size w w' := by
  have hr3 := ((hr.up (.cells #[.slice A vs.length c] 27)).up (.cells #[.slice none 0 0] 37)).up (.cells #[.slice none 0 0] 37)
  have ko := Blk.new ((w.alloc (.cells #[.slice A vs.length c] 27)).alloc (.cells #[.slice none 0 0] 37)) 37 #[.slice none 0 0]
  have kr := (Blk.new (w.alloc (.cells #[.slice A vs.length c] 27)) 37 #[.slice none 0 0]).alloc (.cells #[.slice none 0 0] 37)
  simp only [World.size_alloc] at ko kr
  have HR := Lib.hid hr3; clear hr3 hr
  go_enter Try.func40, Try.ntmps40
  go_wp2_with fail
  refine (toBallotS_any A c vs _ HR.out hn).mono ?_
  rintro e w1 ⟨g, cs, rfl, hg, hk, hp, hb1⟩
  have ko1 := ko.on hb1
  have kr1 := kr.on hb1
  have hB1 := on_ (up_ (up_ (up_ (Below.refl w.heap.size w) _) _) _) hb1
  have hs1 := hb1.size
  simp only [World.size_alloc] at hs1 hg
  have HP := Lib.hid hp
  clear hb1 ko kr hp
  have ro1 := ko1.rule
  have fo1 := fun i => ko1.frozen i
  have ko2 : Blk (w1.setCell ⟨w.heap.size + 1 + 1, 0, none⟩ (.slice (some ⟨g, 0, none⟩) vs.length vs.length)) (w.heap.size + 1 + 1) 37 #[.slice (some ⟨g, 0, none⟩) vs.length vs.length] := ko1.set_ 0 _
  have kr2 := kr1.far (p := ⟨w.heap.size + 1 + 1, 0, none⟩) (by simp) (.slice (some ⟨g, 0, none⟩) vs.length vs.length)
  have ro2 := ko2.rule
  have rr2 := kr2.rule
  have fr2 := fun i => kr2.frozen i
  have kr3 : Blk ((w1.setCell ⟨w.heap.size + 1 + 1, 0, none⟩ (.slice (some ⟨g, 0, none⟩) vs.length vs.length)).setCell ⟨w.heap.size + 1, 0, none⟩ (.slice (some ⟨g, 0, none⟩) vs.length vs.length)) (w.heap.size + 1) 37 #[.slice (some ⟨g, 0, none⟩) vs.length vs.length] := kr2.set_ 0 _
  have rr3 := kr3.rule
  go_wp2
  refine bodyPost_ret (v := .agg #[.slice (some ⟨g, 0, none⟩) vs.length vs.length]) (by simp [results, Try.results40, go_sem, rr3]) rfl ⟨g, cs, rfl, by omega, ?_, HP.out, ?_⟩
  · iterate 2 refine Blk.far ?_ (by simp; omega) _
    exact hk
  · iterate 2 refine Below.setCell ?_ (by simp <;> omega) _
    exact hB1

theorem eqTally_same (A C : Option Addr) (c d : Nat) (vs : List B3) (w : World) (hr : Rd3 w w.heap.size A vs) (hs : Rd3 w w.heap.size C vs) (hn : vs.length ≤ 1048576) :
    Calls Try.prog 46 #[.agg #[.slice A vs.length c], .agg #[.slice C vs.length d]] w fun e w' => e = .returned (.bool true) ∧ Below w.heap.size w w' := by
  have hr2 := (hr.up (.cells #[.slice A vs.length c] 37)).up (.cells #[.slice C vs.length d] 37)
  have hs2 := (hs.up (.cells #[.slice A vs.length c] 37)).up (.cells #[.slice C vs.length d] 37)
  have HR := Lib.hid hr2
  have HS := Lib.hid hs2
  clear hr2 hs2 hr hs
  go_enter Try.func46, Try.ntmps46
  go_wp2_with fail
  refine (eqBallotS_same A C c d vs _ HR.out HS.out hn).mono ?_
  rintro e w1 ⟨rfl, hb1⟩
  have hB1 := on_ (up_ (up_ (Below.refl w.heap.size w) _) _) hb1
  clear hb1
  go_wp2
  go_ret
  exact ⟨rfl, hB1⟩

/-- Only block g, and what is new, may have turned. -/
theorem only_set3 {a w : World} {g : Nat} (h : a.grownBy w (some g)) (i : Nat) (u : Value) : a.grownBy (w.setCell ⟨g, i, none⟩ u) (some g) :=
  ⟨h.os, h.tape, h.output, by simpa [World.setCell] using h.size, fun j hj hne => (Below.heap_setCell w ⟨g, i, none⟩ u j (by
    rintro rfl
    exact hne rfl)).trans (h.block j hj hne)⟩
theorem grown_alloc3 {w w' : World} {o : Obj} {row : Option Nat} (h : (w.alloc o).grownBy w' row) : w.grownBy w' row :=
  ⟨h.os, h.tape, h.output, Nat.le_trans (by simp) h.size, fun i hi hne => (h.block i (by simp; omega) hne).trans (Below.heap_alloc w o i hi)⟩

set_option maxHeartbeats 800000 in
theorem markB3_any (g n c : Nat) (t : TypeId) (cs : Array Value) (k : Int) (w : World) (hb : Blk w g t cs) (hs : n * 3 ≤ cs.size) (hn : n ≤ 1048576) (h0 : 0 ≤ k) (h1 : k ≤ 16777216) :
    Calls Try.prog 93 #[.slice (some ⟨g, 0, none⟩) n c, .int .i64 k] w fun e w' =>
      e = .returned (.int .i64 (k + 3 * n)) ∧ ∃ cs', Blk w' g t cs' ∧ cs'.size = cs.size ∧ MK3 cs' k n ∧ w.grownBy w' (some g) := by
  have HS := Lib.hid hs; clear hs
  go_enter Try.func93, Try.ntmps93
  go_wp2
  go_loopw [1, 5] (fun kk i wr => ∃ (j : Nat) (ds : Array Value), j ≤ n ∧ i = .int .i64 j ∧ kk = .int .i64 (k + 3 * j) ∧ Blk wr g t ds ∧ Hid (ds.size = cs.size) ∧ Hid (MK3 ds k j) ∧ w.grownBy wr (some g)) (fun _ i _ => n - (intOf i).toNat)
  case atStart => exact ⟨0, cs, Nat.zero_le _, rfl, by simp, hb, rfl, fun i hi => absurd hi (by omega), World.grownBy.refl w _⟩
  case round =>
    obtain ⟨j, ds, hj, rfl, rfl, hblk, hsz, hmk, hgr⟩ := hrel
    by_cases hlt : j < n
    · have hlen : j * 3 + 2 < ds.size := by have := hsz.out; have := HS.out; omega
      obtain ⟨y0, hx0⟩ : ∃ y, ds[j * 3]? = some y := ⟨_, Array.getElem?_eq_getElem (by omega)⟩
      obtain ⟨y1, hx1⟩ : ∃ y, ds[j * 3 + 1]? = some y := ⟨_, Array.getElem?_eq_getElem (by omega)⟩
      obtain ⟨y2, hx2⟩ : ∃ y, ds[j * 3 + 2]? = some y := ⟨_, Array.getElem?_eq_getElem (by omega)⟩
      have hc0 := (hblk.cell (j * 3)).trans hx0
      have hc1 := (hblk.cell (j * 3 + 1)).trans hx1
      have hc2 := (hblk.cell (j * 3 + 2)).trans hx2
      have hf0 := hblk.frozen (j * 3)
      have hf1 := hblk.frozen (j * 3 + 1)
      have hf2 := hblk.frozen (j * 3 + 2)
      have HM : Hid (MK3 (((ds.setIfInBounds (j * 3) (.int .i64 (k + 3 * j))).setIfInBounds (j * 3 + 1) (.int .i64 (k + 3 * j + 1))).setIfInBounds (j * 3 + 2) (.int .i64 (k + 3 * j + 1 + 1))) k (j + 1)) := MK3.step hmk.out hlen
      have HZ : Hid ((((ds.setIfInBounds (j * 3) (.int .i64 (k + 3 * j))).setIfInBounds (j * 3 + 1) (.int .i64 (k + 3 * j + 1))).setIfInBounds (j * 3 + 2) (.int .i64 (k + 3 * j + 1 + 1))).size = cs.size) := by rw [Array.size_setIfInBounds, Array.size_setIfInBounds, Array.size_setIfInBounds]; exact hsz.out
      clear hx0 hx1 hx2 hmk hsz hlen
      go_wp2
      go_roundw
      case rel => exact ⟨j + 1, _, by omega, by go_num, by congr 1; simp; omega, ((hblk.set_ _ _).set_ _ _).set_ _ _, HZ, HM, only_set3 (only_set3 (only_set3 hgr _ _) _ _) _ _⟩
      case measure => simp [intOf]; omega
    · have hjn : j = n := by omega
      subst hjn
      go_wp2
      go_ret
      exact ⟨rfl, ds, hblk, hsz.out, hmk.out, hgr⟩
end Go.Proofs.Ytfdfjmibjnmhpaa.V

namespace Go.Proofs.Ytfdfjmibjnmhpaa.B
open Go.RowKit

/-- A replica's state, and where its parts lie. -/
structure Rq where
  n : Int
  id : Int
  own : Int
  view : Int
  left : Int
  voted : List (Int × Int)
  lv : Int
  lx : Int
  dn : Int
  pr : List B3
  vo : List B3
  re : List B3
  ds : List B3
  hs : List Hp
  Av : Option Addr
  Ap : Option Addr
  Ao : Option Addr
  Ar : Option Addr
  Ad : Option Addr
  Ah : Option Addr
  cv : Nat
  cp : Nat
  co : Nat
  cr : Nat
  cd : Nat
  ch : Nat
/-- The data alone. -/
structure Rd4 where
  n : Int
  id : Int
  own : Int
  view : Int
  left : Int
  voted : List (Int × Int)
  lv : Int
  lx : Int
  dn : Int
  pr : List B3
  vo : List B3
  re : List B3
  ds : List B3
  hs : List (Int × List Rp)
def Rq.dat (q : Rq) : Rd4 := ⟨q.n, q.id, q.own, q.view, q.left, q.voted, q.lv, q.lx, q.dn, q.pr, q.vo, q.re, q.ds, hl q.hs⟩
def Rq.cells (q : Rq) : Array Value := #[.int .i64 q.n, .int .i64 q.id, .int .i64 q.own, .int .i64 q.view, .int .i64 q.left, .slice q.Av q.voted.length q.cv, .int .i64 q.lv, .int .i64 q.lx, .int .i64 q.dn, .slice q.Ap q.pr.length q.cp, .slice q.Ao q.vo.length q.co, .slice q.Ar q.re.length q.cr, .slice q.Ad q.ds.length q.cd, .slice q.Ah q.hs.length q.ch]
def Rq.agg (q : Rq) : Value := .agg q.cells
/-- The parts read, below block Bd. -/
structure RdQ (w : World) (Bd : Nat) (q : Rq) : Prop where
  v : Rd w Bd q.Av q.voted
  p : Rd3 w Bd q.Ap q.pr
  o : Rd3 w Bd q.Ao q.vo
  r : Rd3 w Bd q.Ar q.re
  d : Rd3 w Bd q.Ad q.ds
  h : RdH w Bd q.Ah q.hs
section
variable {w w' : World} {Bd Bd' : Nat} {q : Rq}
theorem RdQ.keep (h : RdQ w Bd q) (hk : ∀ b o, b < Bd → w'.cell? ⟨b, o, none⟩ = w.cell? ⟨b, o, none⟩) : RdQ w' Bd q := ⟨h.v.keep hk, h.p.keep hk, h.o.keep hk, h.r.keep hk, h.d.keep hk, h.h.keep hk⟩
theorem RdQ.more (h : RdQ w Bd q) (hB : Bd ≤ Bd') : RdQ w Bd' q := ⟨h.v.more hB, h.p.more hB, h.o.more hB, h.r.more hB, h.d.more hB, h.h.more hB⟩
theorem RdQ.below (h : RdQ w Bd q) (hb : Below Bd w w') : RdQ w' Bd q := h.keep fun _ _ hp => hb.cell hp
theorem RdQ.alloc (h : RdQ w Bd q) (hB : Bd ≤ w.heap.size) (o : Obj) : RdQ (w.alloc o) Bd q := h.keep fun b o' hp => World.cell?_alloc_lt w o ⟨b, o', none⟩ (by simpa using (show b < w.heap.size by omega))
theorem RdQ.on (h : RdQ w w.heap.size q) (hb : Below w.heap.size w w') : RdQ w' w'.heap.size q := (h.below hb).more hb.size
theorem RdQ.up (h : RdQ w w.heap.size q) (O : Obj) : RdQ (w.alloc O) (w.alloc O).heap.size q := (h.alloc (Nat.le_refl _) O).more (by simp)
end
theorem PC3.own {w : World} {t : TypeId} {g lo : Nat} {cs : Array Value} {vs : List B3} (h : PC3 cs vs vs.length) (hb : Blk w g t cs) (hl : lo ≤ g) : OwnL 3 w lo (some ⟨g, 0, none⟩) vs.length := fun _ =>
  ⟨t, g, cs, rfl, hl, hb, by rw [h.1]; omega, fun i hi => by
    have := h.2 (i / 3) (by omega)
    rcases (by omega : i = i / 3 * 3 ∨ i = i / 3 * 3 + 1 ∨ i = i / 3 * 3 + 2) with e | e | e <;> rw [e]
    · exact ⟨_, this.1⟩
    · exact ⟨_, this.2.1⟩
    · exact ⟨_, this.2.2⟩⟩
/-- A state's rows are its own, from lo on. -/
structure OwnQ (w : World) (lo : Nat) (q : Rq) : Prop where
  v : OwnL 2 w lo q.Av q.voted.length
  p : OwnL 3 w lo q.Ap q.pr.length
  o : OwnL 3 w lo q.Ao q.vo.length
  r : OwnL 3 w lo q.Ar q.re.length
  d : OwnL 3 w lo q.Ad q.ds.length
  h : OwnH w lo q.Ah q.hs
theorem OwnQ.keep {w w' : World} {lo : Nat} {q : Rq} (h : OwnQ w lo q) (hk : ∀ g, lo ≤ g → g < w.heap.size → w'.heap[g]? = w.heap[g]?) : OwnQ w' lo q := ⟨h.v.keep hk, h.p.keep hk, h.o.keep hk, h.r.keep hk, h.d.keep hk, h.h.keep hk⟩
theorem OwnQ.low {w : World} {lo lo' : Nat} {q : Rq} (h : OwnQ w lo q) (hl : lo' ≤ lo) : OwnQ w lo' q := ⟨h.v.low hl, h.p.low hl, h.o.low hl, h.r.low hl, h.d.low hl, h.h.low hl⟩
end Go.Proofs.Ytfdfjmibjnmhpaa.B

namespace Go.Proofs.Ytfdfjmibjnmhpaa.V
open Go.RowKit Go.Proofs.Ytfdfjmibjnmhpaa.B
/-- How much it holds. -/
def tot (q : Rq) : Nat := q.voted.length + q.pr.length + q.vo.length + q.re.length + q.ds.length + (q.hs.length + th q.hs q.hs.length)
structure LensQ (q : Rq) : Prop where
  v : q.voted.length ≤ maxLen
  p : q.pr.length ≤ maxLen
  o : q.vo.length ≤ maxLen
  r : q.re.length ≤ maxLen
  d : q.ds.length ≤ maxLen
  h : Lens q.hs
structure FewQ (q : Rq) : Prop where
  v : q.voted.length ≤ 1048576
  p : q.pr.length ≤ 1048576
  o : q.vo.length ≤ 1048576
  r : q.re.length ≤ 1048576
  d : q.ds.length ≤ 1048576
  h : FewH q.hs
theorem fewQ_of {q : Rq} (h : tot q ≤ 1048576) : FewQ q := by
  unfold tot at h
  exact ⟨by omega, by omega, by omega, by omega, by omega, fewH_of (by omega)⟩
theorem FewQ.same {q p : Rq} (h : FewQ q) (e : p.dat = q.dat) : FewQ p := by
  simp only [Rq.dat, Rd4.mk.injEq] at e
  obtain ⟨-, -, -, -, -, e1, -, -, -, e2, e3, e4, e5, e6⟩ := e
  exact ⟨by rw [e1]; exact h.v, by rw [e2]; exact h.p, by rw [e3]; exact h.o, by rw [e4]; exact h.r, by rw [e5]; exact h.d, (h.h.same e6).1⟩

set_option maxHeartbeats 1600000 in
theorem szRep_any (q : Rq) (left : Int) (w : World) (hr : RdH w w.heap.size q.Ah q.hs) (hL : LensQ q) (h0 : 0 ≤ left) (h1 : left ≤ 1048576) :
    Calls Try.prog 8 #[q.agg, .int .i64 left] w fun e w' => e = .returned (.int .i64 (if left < (tot q : Int) then -1 else left - tot q)) ∧ Below w.heap.size w w' := by
  obtain ⟨T, hT⟩ : ∃ T, tot q = T := ⟨_, rfl⟩
  rw [hT]
  obtain ⟨z, hz⟩ : ∃ z : Int, (if left < (T : Int) then -1 else left - T) = z := ⟨_, rfl⟩
  rw [hz]
  have HZ := Lib.hid hz; clear hz
  obtain ⟨n, id, own, view, left_, voted, lv, lx, dn, pr, vo, re, ds, hs, Av, Ap, Ao, Ar, Ad, Ah, cv, cp, co, cr, cd, ch⟩ := q
  obtain ⟨lv0, lp0, lo0, lr0, ld0, lh0⟩ := hL
  simp only [Rq.agg, Rq.cells, tot] at *
  have H5 := Lib.hid (fun (W : World) (y : Int) (g : RdH W W.heap.size Ah hs) (g0 : 0 ≤ y) (g1 : y ≤ 1048576) => szHeardS_any Ah ch hs y W g lh0 g0 g1)
  obtain ⟨la, hla⟩ : ∃ m, voted.length = m := ⟨_, rfl⟩
  rw [hla] at lv0 hT ⊢
  clear hla
  obtain ⟨lb, hlb⟩ : ∃ m, pr.length = m := ⟨_, rfl⟩
  rw [hlb] at lp0 hT ⊢
  clear hlb
  obtain ⟨lc, hlc⟩ : ∃ m, vo.length = m := ⟨_, rfl⟩
  rw [hlc] at lo0 hT ⊢
  clear hlc
  obtain ⟨ld, hld⟩ : ∃ m, re.length = m := ⟨_, rfl⟩
  rw [hld] at lr0 hT ⊢
  clear hld
  obtain ⟨le, hle⟩ : ∃ m, ds.length = m := ⟨_, rfl⟩
  rw [hle] at ld0 hT ⊢
  clear hle
  obtain ⟨lf, hlf⟩ : ∃ m, hs.length = m := ⟨_, rfl⟩
  rw [hlf] at H5 hT ⊢
  obtain ⟨lg, hlg⟩ : ∃ m, th hs lf = m := ⟨_, rfl⟩
  rw [hlg] at H5 hT
  clear hlf hlg lh0
  have HT := Lib.hid hT; clear hT
  have HR := Lib.hid hr; clear hr
  obtain ⟨y1, hy1⟩ : ∃ z : Int, left - la = z := ⟨_, rfl⟩
  obtain ⟨y2, hy2⟩ : ∃ z : Int, y1 - lb = z := ⟨_, rfl⟩
  obtain ⟨y3, hy3⟩ : ∃ z : Int, y2 - lc = z := ⟨_, rfl⟩
  obtain ⟨y4, hy4⟩ : ∃ z : Int, y3 - ld = z := ⟨_, rfl⟩
  obtain ⟨y5, hy5⟩ : ∃ z : Int, y4 - le = z := ⟨_, rfl⟩
  unfold maxLen at lv0 lp0 lo0 lr0 ld0
  by_cases k0 : left < (la : Int)
  · have hc0 := fun W => sz_any Av la cv left W (by unfold maxLen; omega) h0 h1
    simp only [if_pos k0] at hc0
    have C0 := Lib.hid hc0; clear hc0
    go_enter Try.func8, Try.ntmps8
    have ka := Blk.new w 30 #[.int .i64 n, .int .i64 id, .int .i64 own, .int .i64 view, .int .i64 left_, .slice Av la cv, .int .i64 lv, .int .i64 lx, .int .i64 dn, .slice Ap lb cp, .slice Ao lc co, .slice Ar ld cr, .slice Ad le cd, .slice Ah lf ch]
    have hB := up_ (Below.refl w.heap.size w) (.cells #[.int .i64 n, .int .i64 id, .int .i64 own, .int .i64 view, .int .i64 left_, .slice Av la cv, .int .i64 lv, .int .i64 lx, .int .i64 dn, .slice Ap lb cp, .slice Ao lc co, .slice Ar ld cr, .slice Ad le cd, .slice Ah lf ch] 30)
    have hr := HR.out.up (.cells #[.int .i64 n, .int .i64 id, .int .i64 own, .int .i64 view, .int .i64 left_, .slice Av la cv, .int .i64 lv, .int .i64 lx, .int .i64 dn, .slice Ap lb cp, .slice Ao lc co, .slice Ar ld cr, .slice Ad le cd, .slice Ah lf ch] 30)
    have HB := Lib.hid hB; have HH := Lib.hid hr; clear hB hr HR
    have ra := ka.rule
    go_wp2_with fail
    refine (C0.out _).mono ?_
    rintro e v0 ⟨rfl, rfl⟩
    go_wp2
    go_ret
    exact ⟨ret_int2 (by rw [← HZ.out, if_pos (by have := HT.out; omega)]), HB.out⟩
  · skip
    by_cases k1 : y1 < (lb : Int)
    · have hc0 := fun W => sz_any Av la cv left W (by unfold maxLen; omega) h0 h1
      simp only [if_neg (show ¬ left < (la : Int) by omega), hy1] at hc0
      have C0 := Lib.hid hc0; clear hc0
      have hc1 := fun W => szTally_big Ap lb cp y1 W (by unfold maxLen; omega) (by omega) (by omega) k1
      have C1 := Lib.hid hc1; clear hc1
      have n1 : ¬ y1 < 0 := by omega
      go_enter Try.func8, Try.ntmps8
      have ka := Blk.new w 30 #[.int .i64 n, .int .i64 id, .int .i64 own, .int .i64 view, .int .i64 left_, .slice Av la cv, .int .i64 lv, .int .i64 lx, .int .i64 dn, .slice Ap lb cp, .slice Ao lc co, .slice Ar ld cr, .slice Ad le cd, .slice Ah lf ch]
      have hB := up_ (Below.refl w.heap.size w) (.cells #[.int .i64 n, .int .i64 id, .int .i64 own, .int .i64 view, .int .i64 left_, .slice Av la cv, .int .i64 lv, .int .i64 lx, .int .i64 dn, .slice Ap lb cp, .slice Ao lc co, .slice Ar ld cr, .slice Ad le cd, .slice Ah lf ch] 30)
      have hr := HR.out.up (.cells #[.int .i64 n, .int .i64 id, .int .i64 own, .int .i64 view, .int .i64 left_, .slice Av la cv, .int .i64 lv, .int .i64 lx, .int .i64 dn, .slice Ap lb cp, .slice Ao lc co, .slice Ar ld cr, .slice Ad le cd, .slice Ah lf ch] 30)
      have HB := Lib.hid hB; have HH := Lib.hid hr; clear hB hr HR
      have ra := ka.rule
      go_wp2_with fail
      refine (C0.out _).mono ?_
      rintro e v0 ⟨rfl, rfl⟩
      go_wp2_with fail
      refine (C1.out _).mono ?_
      rintro e v1 ⟨rfl, hb⟩
      have kb := ka.on hb; have HB2 := Lib.hid (on_ HB.out hb); have HH2 := Lib.hid (HH.out.on hb); clear hb HB HH ra ka
      have ka := kb; have HB := HB2; have HH := HH2; clear kb HB2 HH2; have ra := ka.rule
      go_wp2
      go_ret
      exact ⟨ret_int2 (by rw [← HZ.out, if_pos (by have := HT.out; omega)]), HB.out⟩
    · skip
      by_cases k2 : y2 < (lc : Int)
      · have hc0 := fun W => sz_any Av la cv left W (by unfold maxLen; omega) h0 h1
        simp only [if_neg (show ¬ left < (la : Int) by omega), hy1] at hc0
        have C0 := Lib.hid hc0; clear hc0
        have hc1 := fun W => szTally_small Ap lb cp y1 W (by unfold maxLen; omega) (by omega) (by omega) (by omega)
        simp only [hy2] at hc1
        have C1 := Lib.hid hc1; clear hc1
        have hc2 := fun W => szTally_big Ao lc co y2 W (by unfold maxLen; omega) (by omega) (by omega) k2
        have C2 := Lib.hid hc2; clear hc2
        have n1 : ¬ y1 < 0 := by omega
        have n2 : ¬ y2 < 0 := by omega
        go_enter Try.func8, Try.ntmps8
        have ka := Blk.new w 30 #[.int .i64 n, .int .i64 id, .int .i64 own, .int .i64 view, .int .i64 left_, .slice Av la cv, .int .i64 lv, .int .i64 lx, .int .i64 dn, .slice Ap lb cp, .slice Ao lc co, .slice Ar ld cr, .slice Ad le cd, .slice Ah lf ch]
        have hB := up_ (Below.refl w.heap.size w) (.cells #[.int .i64 n, .int .i64 id, .int .i64 own, .int .i64 view, .int .i64 left_, .slice Av la cv, .int .i64 lv, .int .i64 lx, .int .i64 dn, .slice Ap lb cp, .slice Ao lc co, .slice Ar ld cr, .slice Ad le cd, .slice Ah lf ch] 30)
        have hr := HR.out.up (.cells #[.int .i64 n, .int .i64 id, .int .i64 own, .int .i64 view, .int .i64 left_, .slice Av la cv, .int .i64 lv, .int .i64 lx, .int .i64 dn, .slice Ap lb cp, .slice Ao lc co, .slice Ar ld cr, .slice Ad le cd, .slice Ah lf ch] 30)
        have HB := Lib.hid hB; have HH := Lib.hid hr; clear hB hr HR
        have ra := ka.rule
        go_wp2_with fail
        refine (C0.out _).mono ?_
        rintro e v0 ⟨rfl, rfl⟩
        go_wp2_with fail
        refine (C1.out _).mono ?_
        rintro e v1 ⟨rfl, hb⟩
        have kb := ka.on hb; have HB2 := Lib.hid (on_ HB.out hb); have HH2 := Lib.hid (HH.out.on hb); clear hb HB HH ra ka
        have ka := kb; have HB := HB2; have HH := HH2; clear kb HB2 HH2; have ra := ka.rule
        go_wp2_with fail
        refine (C2.out _).mono ?_
        rintro e v2 ⟨rfl, hb⟩
        have kb := ka.on hb; have HB2 := Lib.hid (on_ HB.out hb); have HH2 := Lib.hid (HH.out.on hb); clear hb HB HH ra ka
        have ka := kb; have HB := HB2; have HH := HH2; clear kb HB2 HH2; have ra := ka.rule
        go_wp2
        go_ret
        exact ⟨ret_int2 (by rw [← HZ.out, if_pos (by have := HT.out; omega)]), HB.out⟩
      · skip
        by_cases k3 : y3 < (ld : Int)
        · have hc0 := fun W => sz_any Av la cv left W (by unfold maxLen; omega) h0 h1
          simp only [if_neg (show ¬ left < (la : Int) by omega), hy1] at hc0
          have C0 := Lib.hid hc0; clear hc0
          have hc1 := fun W => szTally_small Ap lb cp y1 W (by unfold maxLen; omega) (by omega) (by omega) (by omega)
          simp only [hy2] at hc1
          have C1 := Lib.hid hc1; clear hc1
          have hc2 := fun W => szTally_small Ao lc co y2 W (by unfold maxLen; omega) (by omega) (by omega) (by omega)
          simp only [hy3] at hc2
          have C2 := Lib.hid hc2; clear hc2
          have hc3 := fun W => szTally_big Ar ld cr y3 W (by unfold maxLen; omega) (by omega) (by omega) k3
          have C3 := Lib.hid hc3; clear hc3
          have n1 : ¬ y1 < 0 := by omega
          have n2 : ¬ y2 < 0 := by omega
          have n3 : ¬ y3 < 0 := by omega
          go_enter Try.func8, Try.ntmps8
          have ka := Blk.new w 30 #[.int .i64 n, .int .i64 id, .int .i64 own, .int .i64 view, .int .i64 left_, .slice Av la cv, .int .i64 lv, .int .i64 lx, .int .i64 dn, .slice Ap lb cp, .slice Ao lc co, .slice Ar ld cr, .slice Ad le cd, .slice Ah lf ch]
          have hB := up_ (Below.refl w.heap.size w) (.cells #[.int .i64 n, .int .i64 id, .int .i64 own, .int .i64 view, .int .i64 left_, .slice Av la cv, .int .i64 lv, .int .i64 lx, .int .i64 dn, .slice Ap lb cp, .slice Ao lc co, .slice Ar ld cr, .slice Ad le cd, .slice Ah lf ch] 30)
          have hr := HR.out.up (.cells #[.int .i64 n, .int .i64 id, .int .i64 own, .int .i64 view, .int .i64 left_, .slice Av la cv, .int .i64 lv, .int .i64 lx, .int .i64 dn, .slice Ap lb cp, .slice Ao lc co, .slice Ar ld cr, .slice Ad le cd, .slice Ah lf ch] 30)
          have HB := Lib.hid hB; have HH := Lib.hid hr; clear hB hr HR
          have ra := ka.rule
          go_wp2_with fail
          refine (C0.out _).mono ?_
          rintro e v0 ⟨rfl, rfl⟩
          go_wp2_with fail
          refine (C1.out _).mono ?_
          rintro e v1 ⟨rfl, hb⟩
          have kb := ka.on hb; have HB2 := Lib.hid (on_ HB.out hb); have HH2 := Lib.hid (HH.out.on hb); clear hb HB HH ra ka
          have ka := kb; have HB := HB2; have HH := HH2; clear kb HB2 HH2; have ra := ka.rule
          go_wp2_with fail
          refine (C2.out _).mono ?_
          rintro e v2 ⟨rfl, hb⟩
          have kb := ka.on hb; have HB2 := Lib.hid (on_ HB.out hb); have HH2 := Lib.hid (HH.out.on hb); clear hb HB HH ra ka
          have ka := kb; have HB := HB2; have HH := HH2; clear kb HB2 HH2; have ra := ka.rule
          go_wp2_with fail
          refine (C3.out _).mono ?_
          rintro e v3 ⟨rfl, hb⟩
          have kb := ka.on hb; have HB2 := Lib.hid (on_ HB.out hb); have HH2 := Lib.hid (HH.out.on hb); clear hb HB HH ra ka
          have ka := kb; have HB := HB2; have HH := HH2; clear kb HB2 HH2; have ra := ka.rule
          go_wp2
          go_ret
          exact ⟨ret_int2 (by rw [← HZ.out, if_pos (by have := HT.out; omega)]), HB.out⟩
        · skip
          by_cases k4 : y4 < (le : Int)
          · have hc0 := fun W => sz_any Av la cv left W (by unfold maxLen; omega) h0 h1
            simp only [if_neg (show ¬ left < (la : Int) by omega), hy1] at hc0
            have C0 := Lib.hid hc0; clear hc0
            have hc1 := fun W => szTally_small Ap lb cp y1 W (by unfold maxLen; omega) (by omega) (by omega) (by omega)
            simp only [hy2] at hc1
            have C1 := Lib.hid hc1; clear hc1
            have hc2 := fun W => szTally_small Ao lc co y2 W (by unfold maxLen; omega) (by omega) (by omega) (by omega)
            simp only [hy3] at hc2
            have C2 := Lib.hid hc2; clear hc2
            have hc3 := fun W => szTally_small Ar ld cr y3 W (by unfold maxLen; omega) (by omega) (by omega) (by omega)
            simp only [hy4] at hc3
            have C3 := Lib.hid hc3; clear hc3
            have hc4 := fun W => szTally_big Ad le cd y4 W (by unfold maxLen; omega) (by omega) (by omega) k4
            have C4 := Lib.hid hc4; clear hc4
            have n1 : ¬ y1 < 0 := by omega
            have n2 : ¬ y2 < 0 := by omega
            have n3 : ¬ y3 < 0 := by omega
            have n4 : ¬ y4 < 0 := by omega
            go_enter Try.func8, Try.ntmps8
            have ka := Blk.new w 30 #[.int .i64 n, .int .i64 id, .int .i64 own, .int .i64 view, .int .i64 left_, .slice Av la cv, .int .i64 lv, .int .i64 lx, .int .i64 dn, .slice Ap lb cp, .slice Ao lc co, .slice Ar ld cr, .slice Ad le cd, .slice Ah lf ch]
            have hB := up_ (Below.refl w.heap.size w) (.cells #[.int .i64 n, .int .i64 id, .int .i64 own, .int .i64 view, .int .i64 left_, .slice Av la cv, .int .i64 lv, .int .i64 lx, .int .i64 dn, .slice Ap lb cp, .slice Ao lc co, .slice Ar ld cr, .slice Ad le cd, .slice Ah lf ch] 30)
            have hr := HR.out.up (.cells #[.int .i64 n, .int .i64 id, .int .i64 own, .int .i64 view, .int .i64 left_, .slice Av la cv, .int .i64 lv, .int .i64 lx, .int .i64 dn, .slice Ap lb cp, .slice Ao lc co, .slice Ar ld cr, .slice Ad le cd, .slice Ah lf ch] 30)
            have HB := Lib.hid hB; have HH := Lib.hid hr; clear hB hr HR
            have ra := ka.rule
            go_wp2_with fail
            refine (C0.out _).mono ?_
            rintro e v0 ⟨rfl, rfl⟩
            go_wp2_with fail
            refine (C1.out _).mono ?_
            rintro e v1 ⟨rfl, hb⟩
            have kb := ka.on hb; have HB2 := Lib.hid (on_ HB.out hb); have HH2 := Lib.hid (HH.out.on hb); clear hb HB HH ra ka
            have ka := kb; have HB := HB2; have HH := HH2; clear kb HB2 HH2; have ra := ka.rule
            go_wp2_with fail
            refine (C2.out _).mono ?_
            rintro e v2 ⟨rfl, hb⟩
            have kb := ka.on hb; have HB2 := Lib.hid (on_ HB.out hb); have HH2 := Lib.hid (HH.out.on hb); clear hb HB HH ra ka
            have ka := kb; have HB := HB2; have HH := HH2; clear kb HB2 HH2; have ra := ka.rule
            go_wp2_with fail
            refine (C3.out _).mono ?_
            rintro e v3 ⟨rfl, hb⟩
            have kb := ka.on hb; have HB2 := Lib.hid (on_ HB.out hb); have HH2 := Lib.hid (HH.out.on hb); clear hb HB HH ra ka
            have ka := kb; have HB := HB2; have HH := HH2; clear kb HB2 HH2; have ra := ka.rule
            go_wp2_with fail
            refine (C4.out _).mono ?_
            rintro e v4 ⟨rfl, hb⟩
            have kb := ka.on hb; have HB2 := Lib.hid (on_ HB.out hb); have HH2 := Lib.hid (HH.out.on hb); clear hb HB HH ra ka
            have ka := kb; have HB := HB2; have HH := HH2; clear kb HB2 HH2; have ra := ka.rule
            go_wp2
            go_ret
            exact ⟨ret_int2 (by rw [← HZ.out, if_pos (by have := HT.out; omega)]), HB.out⟩
          · skip
            by_cases k5 : y5 < (lf : Int) + (lg : Int)
            · have hc0 := fun W => sz_any Av la cv left W (by unfold maxLen; omega) h0 h1
              simp only [if_neg (show ¬ left < (la : Int) by omega), hy1] at hc0
              have C0 := Lib.hid hc0; clear hc0
              have hc1 := fun W => szTally_small Ap lb cp y1 W (by unfold maxLen; omega) (by omega) (by omega) (by omega)
              simp only [hy2] at hc1
              have C1 := Lib.hid hc1; clear hc1
              have hc2 := fun W => szTally_small Ao lc co y2 W (by unfold maxLen; omega) (by omega) (by omega) (by omega)
              simp only [hy3] at hc2
              have C2 := Lib.hid hc2; clear hc2
              have hc3 := fun W => szTally_small Ar ld cr y3 W (by unfold maxLen; omega) (by omega) (by omega) (by omega)
              simp only [hy4] at hc3
              have C3 := Lib.hid hc3; clear hc3
              have hc4 := fun W => szTally_small Ad le cd y4 W (by unfold maxLen; omega) (by omega) (by omega) (by omega)
              simp only [hy5] at hc4
              have C4 := Lib.hid hc4; clear hc4
              have hc5 := fun (W : World) (g : RdH W W.heap.size Ah hs) => H5.out W y5 g (by omega) (by omega)
              simp only [if_pos k5] at hc5
              have C5 := Lib.hid hc5; clear hc5
              have n1 : ¬ y1 < 0 := by omega
              have n2 : ¬ y2 < 0 := by omega
              have n3 : ¬ y3 < 0 := by omega
              have n4 : ¬ y4 < 0 := by omega
              have n5 : ¬ y5 < 0 := by omega
              go_enter Try.func8, Try.ntmps8
              have ka := Blk.new w 30 #[.int .i64 n, .int .i64 id, .int .i64 own, .int .i64 view, .int .i64 left_, .slice Av la cv, .int .i64 lv, .int .i64 lx, .int .i64 dn, .slice Ap lb cp, .slice Ao lc co, .slice Ar ld cr, .slice Ad le cd, .slice Ah lf ch]
              have hB := up_ (Below.refl w.heap.size w) (.cells #[.int .i64 n, .int .i64 id, .int .i64 own, .int .i64 view, .int .i64 left_, .slice Av la cv, .int .i64 lv, .int .i64 lx, .int .i64 dn, .slice Ap lb cp, .slice Ao lc co, .slice Ar ld cr, .slice Ad le cd, .slice Ah lf ch] 30)
              have hr := HR.out.up (.cells #[.int .i64 n, .int .i64 id, .int .i64 own, .int .i64 view, .int .i64 left_, .slice Av la cv, .int .i64 lv, .int .i64 lx, .int .i64 dn, .slice Ap lb cp, .slice Ao lc co, .slice Ar ld cr, .slice Ad le cd, .slice Ah lf ch] 30)
              have HB := Lib.hid hB; have HH := Lib.hid hr; clear hB hr HR
              have ra := ka.rule
              go_wp2_with fail
              refine (C0.out _).mono ?_
              rintro e v0 ⟨rfl, rfl⟩
              go_wp2_with fail
              refine (C1.out _).mono ?_
              rintro e v1 ⟨rfl, hb⟩
              have kb := ka.on hb; have HB2 := Lib.hid (on_ HB.out hb); have HH2 := Lib.hid (HH.out.on hb); clear hb HB HH ra ka
              have ka := kb; have HB := HB2; have HH := HH2; clear kb HB2 HH2; have ra := ka.rule
              go_wp2_with fail
              refine (C2.out _).mono ?_
              rintro e v2 ⟨rfl, hb⟩
              have kb := ka.on hb; have HB2 := Lib.hid (on_ HB.out hb); have HH2 := Lib.hid (HH.out.on hb); clear hb HB HH ra ka
              have ka := kb; have HB := HB2; have HH := HH2; clear kb HB2 HH2; have ra := ka.rule
              go_wp2_with fail
              refine (C3.out _).mono ?_
              rintro e v3 ⟨rfl, hb⟩
              have kb := ka.on hb; have HB2 := Lib.hid (on_ HB.out hb); have HH2 := Lib.hid (HH.out.on hb); clear hb HB HH ra ka
              have ka := kb; have HB := HB2; have HH := HH2; clear kb HB2 HH2; have ra := ka.rule
              go_wp2_with fail
              refine (C4.out _).mono ?_
              rintro e v4 ⟨rfl, hb⟩
              have kb := ka.on hb; have HB2 := Lib.hid (on_ HB.out hb); have HH2 := Lib.hid (HH.out.on hb); clear hb HB HH ra ka
              have ka := kb; have HB := HB2; have HH := HH2; clear kb HB2 HH2; have ra := ka.rule
              go_wp2_with fail
              refine (C5.out _ HH.out).mono ?_
              rintro e v5 ⟨rfl, hb⟩
              have kb := ka.on hb; have HB2 := Lib.hid (on_ HB.out hb); have HH2 := Lib.hid (HH.out.on hb); clear hb HB HH ra ka
              have ka := kb; have HB := HB2; have HH := HH2; clear kb HB2 HH2; have ra := ka.rule
              go_wp2
              go_ret
              exact ⟨ret_int2 (by rw [← HZ.out, if_pos (by have := HT.out; omega)]), HB.out⟩
            · skip
              have hc0 := fun W => sz_any Av la cv left W (by unfold maxLen; omega) h0 h1
              simp only [if_neg (show ¬ left < (la : Int) by omega), hy1] at hc0
              have C0 := Lib.hid hc0; clear hc0
              have hc1 := fun W => szTally_small Ap lb cp y1 W (by unfold maxLen; omega) (by omega) (by omega) (by omega)
              simp only [hy2] at hc1
              have C1 := Lib.hid hc1; clear hc1
              have hc2 := fun W => szTally_small Ao lc co y2 W (by unfold maxLen; omega) (by omega) (by omega) (by omega)
              simp only [hy3] at hc2
              have C2 := Lib.hid hc2; clear hc2
              have hc3 := fun W => szTally_small Ar ld cr y3 W (by unfold maxLen; omega) (by omega) (by omega) (by omega)
              simp only [hy4] at hc3
              have C3 := Lib.hid hc3; clear hc3
              have hc4 := fun W => szTally_small Ad le cd y4 W (by unfold maxLen; omega) (by omega) (by omega) (by omega)
              simp only [hy5] at hc4
              have C4 := Lib.hid hc4; clear hc4
              have hc5 := fun (W : World) (g : RdH W W.heap.size Ah hs) => H5.out W y5 g (by omega) (by omega)
              simp only [if_neg k5] at hc5
              obtain ⟨y6, hy6⟩ : ∃ z : Int, y5 - lf - lg = z := ⟨_, rfl⟩
              simp only [hy6] at hc5
              have ny6 : ¬ y6 < 0 := by omega
              have my6 : 0 ≤ y6 := by omega
              have C5 := Lib.hid hc5; clear hc5
              have n1 : ¬ y1 < 0 := by omega
              have n2 : ¬ y2 < 0 := by omega
              have n3 : ¬ y3 < 0 := by omega
              have n4 : ¬ y4 < 0 := by omega
              have n5 : ¬ y5 < 0 := by omega
              have HY : Hid (left - T = y6) := by show _ = _; have := HT.out; omega
              go_enter Try.func8, Try.ntmps8
              have ka := Blk.new w 30 #[.int .i64 n, .int .i64 id, .int .i64 own, .int .i64 view, .int .i64 left_, .slice Av la cv, .int .i64 lv, .int .i64 lx, .int .i64 dn, .slice Ap lb cp, .slice Ao lc co, .slice Ar ld cr, .slice Ad le cd, .slice Ah lf ch]
              have hB := up_ (Below.refl w.heap.size w) (.cells #[.int .i64 n, .int .i64 id, .int .i64 own, .int .i64 view, .int .i64 left_, .slice Av la cv, .int .i64 lv, .int .i64 lx, .int .i64 dn, .slice Ap lb cp, .slice Ao lc co, .slice Ar ld cr, .slice Ad le cd, .slice Ah lf ch] 30)
              have hr := HR.out.up (.cells #[.int .i64 n, .int .i64 id, .int .i64 own, .int .i64 view, .int .i64 left_, .slice Av la cv, .int .i64 lv, .int .i64 lx, .int .i64 dn, .slice Ap lb cp, .slice Ao lc co, .slice Ar ld cr, .slice Ad le cd, .slice Ah lf ch] 30)
              have HB := Lib.hid hB; have HH := Lib.hid hr; clear hB hr HR
              have ra := ka.rule
              go_wp2_with fail
              refine (C0.out _).mono ?_
              rintro e v0 ⟨rfl, rfl⟩
              go_wp2_with fail
              refine (C1.out _).mono ?_
              rintro e v1 ⟨rfl, hb⟩
              have kb := ka.on hb; have HB2 := Lib.hid (on_ HB.out hb); have HH2 := Lib.hid (HH.out.on hb); clear hb HB HH ra ka
              have ka := kb; have HB := HB2; have HH := HH2; clear kb HB2 HH2; have ra := ka.rule
              go_wp2_with fail
              refine (C2.out _).mono ?_
              rintro e v2 ⟨rfl, hb⟩
              have kb := ka.on hb; have HB2 := Lib.hid (on_ HB.out hb); have HH2 := Lib.hid (HH.out.on hb); clear hb HB HH ra ka
              have ka := kb; have HB := HB2; have HH := HH2; clear kb HB2 HH2; have ra := ka.rule
              go_wp2_with fail
              refine (C3.out _).mono ?_
              rintro e v3 ⟨rfl, hb⟩
              have kb := ka.on hb; have HB2 := Lib.hid (on_ HB.out hb); have HH2 := Lib.hid (HH.out.on hb); clear hb HB HH ra ka
              have ka := kb; have HB := HB2; have HH := HH2; clear kb HB2 HH2; have ra := ka.rule
              go_wp2_with fail
              refine (C4.out _).mono ?_
              rintro e v4 ⟨rfl, hb⟩
              have kb := ka.on hb; have HB2 := Lib.hid (on_ HB.out hb); have HH2 := Lib.hid (HH.out.on hb); clear hb HB HH ra ka
              have ka := kb; have HB := HB2; have HH := HH2; clear kb HB2 HH2; have ra := ka.rule
              go_wp2_with fail
              refine (C5.out _ HH.out).mono ?_
              rintro e v5 ⟨rfl, hb⟩
              have kb := ka.on hb; have HB2 := Lib.hid (on_ HB.out hb); have HH2 := Lib.hid (HH.out.on hb); clear hb HB HH ra ka
              have ka := kb; have HB := HB2; have HH := HH2; clear kb HB2 HH2; have ra := ka.rule
              go_wp2
              go_ret
              exact ⟨ret_int2 (by rw [← HZ.out, ← HY.out, if_neg (by have := HT.out; omega)]), HB.out⟩
end Go.Proofs.Ytfdfjmibjnmhpaa.V

namespace Go.Proofs.Ytfdfjmibjnmhpaa.B
open Go.RowKit Go.ChangeShapes Go.WideShapes Go.Deep

section
variable {H : Type} {enc : TypeId × Value → H} {P : Program}

def typesRowed (P : Program) (ts : List TypeId) : Bool := ts.all fun t => P.readableRec t && decide (t < P.types.size)

theorem trodAll_below (hl : laidOutB P = true) {W W' : World} (hb : Below W.heap.size W W') : ∀ {ts : List TypeId} {vs : List Value} {ds : List (DataW H)} {ps : List MemPlace}, typesRowed P ts = true →
    DataW.TrodAll enc P W 0 (fun _ => true) true ts vs ds ps → (∀ x ∈ ps, x.block < W.heap.size) → DataW.TrodAll enc P W' 0 (fun b => decide (b < W.heap.size)) true ts vs ds ps
  | [], [], [], _, _, h, _ => h
  | t :: ts, v :: vs, d :: ds, ps, hr, ⟨p, q, h, hs, e⟩, hlt => by
    simp only [typesRowed, List.all_cons, Bool.and_eq_true, decide_eq_true_eq] at hr
    refine ⟨p, q, Below.trod hl hr.1.1 hr.1.2 h hb (fun x hx => hlt x (by rw [e]; simp [hx])), trodAll_below hl hb (by simpa [typesRowed] using hr.2) hs (fun x hx => hlt x (by rw [e]; simp [hx])), e⟩

/-- What a law's statement asks behind the call. -/
theorem law_post {f : Func} {s : ChangeSpec} {W W' : World} {args : Array Value} {ds gs : List (DataW H)} {before : List MemPlace} {tb : TypeId} (hl : laidOutB P = true)
    (hW : DataW.Whole enc P f.params.toList s.vars false W args.toList ds gs before) (hb : Below W.heap.size W W') (hv : s.vars = []) (htb : f.resultTypes = #[tb]) (hub : P.underlying tb = some .bool)
    (hty : typesRowed P f.params.toList = true) (hf : s.fn H ds = { results := [.lit (.bool true)], args := ds }) : s.post enc P f false true false false W args (.bool true) W' := by
  have hlt := hW.lt
  obtain ⟨p, q, hA, hV, rfl, _, _⟩ := id hW
  rw [hv] at hV
  obtain ⟨rfl, rfl⟩ := trodVars_none hV
  refine ⟨ds, [], p ++ [], [], p, [], hW, ?_, ?_, ?_, Below.frame hb _, fun h => by cases h⟩
  · rw [htb, List.append_nil, hf]
    exact trodAll_mk1 (shut_bool hub true)
  · rw [List.append_nil, hf]
    exact trodAll_below hl hb hty hA (fun x hx => by simpa using hlt x (by simp [hx]))
  · rw [hv, List.append_nil, hf]
    rfl
end

section
variable {H : Type} {enc : TypeId × Value → H} {P : Program} {w : World}

theorem addr_none {a : Addr} {v : Value} (h : w.cell? a = some v) : ∃ b off, a = ⟨b, off, none⟩ := by
  obtain ⟨b, off, spot⟩ := a
  have := World.cell?_spot h
  simp only at this
  subst this
  exact ⟨b, off, rfl⟩

/-- An argument that is a slice of structs of two ints, opened as 'Rd'. -/
theorem open_pairs {t e : TypeId} {f0 f1 : Field} {fuel : Nat} {cs : List Value} {x : DataW H × List MemPlace} (ht : P.underlying t = some (.slice e)) (he : P.underlying e = some (.struct #[f0, f1]))
    (ce : P.cellsOf e = 2) (o0 : f0.offset = 0) (o1 : f1.offset = 1) (c0 : P.cellsOf f0.type = 1) (c1 : P.cellsOf f1.type = 1) (k0 : P.underlying f0.type = some (.int .i64)) (k1 : P.underlying f1.type = some (.int .i64))
    (h : DataW.trod enc P w 0 (fun _ => true) true fuel t cs = some x) :
    ∃ (A : Option Addr) (c : Nat) (vs : List (Int × Int)), cs = [.slice A vs.length c] ∧ vs.length ≤ maxLen ∧ Rd w w.heap.size A vs := by
  rcases open_slice_pairs ht he ce o0 o1 c0 c1 h with ⟨rfl, _⟩ | ⟨a, len, cap, m, n, V0, V1, D0, D1, P0, P1, rfl, _, hl, hm, hmm, _, hx⟩
  · exact ⟨none, 0, [], rfl, by simp [maxLen], Rd.nil_⟩
  · have hlm : len ≤ m := by rw [hmm]; simpa using hl
    refine ⟨some a, cap, (List.range len).map fun i => (intOf (V0 i), intOf (V1 i)), by simp, by simp; omega, fun hp => ?_⟩
    have hp' : 0 < len := by simpa using hp
    have hz0 := (hx 0 (by omega)).1
    rw [Nat.zero_mul, show a.add 0 = a from rfl] at hz0
    obtain ⟨b, off, rfl⟩ := addr_none hz0
    refine ⟨b, off, rfl, World.block_lt_of_cell? w ⟨b, off, none⟩ hz0, fun i hi => ?_⟩
    have hi' : i < len := by simpa using hi
    obtain ⟨h0, h1, t0, t1⟩ := hx i (by omega)
    obtain ⟨n0, e0, _, _⟩ := DataW.trod_int k0 t0
    obtain ⟨n1, e1, _, _⟩ := DataW.trod_int k1 t1
    simp only [List.cons.injEq, and_true] at e0 e1
    rw [add_plain] at h0
    rw [add_plain] at h1
    have hg : ((List.range len).map fun i => (intOf (V0 i), intOf (V1 i))).getD i (0, 0) = (n0, n1) := by
      simp [List.getD, hi', e0, e1, intOf]
    rw [hg]
    exact ⟨by rw [h0, e0], by rw [Nat.add_assoc, h1, e1]⟩
end
end Go.Proofs.Ytfdfjmibjnmhpaa.B
