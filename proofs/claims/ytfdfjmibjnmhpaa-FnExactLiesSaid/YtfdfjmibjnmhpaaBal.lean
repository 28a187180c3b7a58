/-
  Slices of ballots: how they read, and what the helpers of the laws do with ballots and tallies. No statement is proved here.
-/
import Derived.Test.YtfdfjmibjnmhpaaChecked
import Derived.Test.YtfdfjmibjnmhpaaReads
import Derived.StillTailTactics
set_option linter.unusedVariables false
set_option maxRecDepth 100000
namespace Go.Proofs.Ytfdfjmibjnmhpaa.B
open Go.RowKit

abbrev B3 := Int × Int × Int
abbrev z3 : B3 := (0, 0, 0)
/-- A slice value at address A reads, below block Bd, as the ballots vs. -/
def Rd3 (w : World) (Bd : Nat) (A : Option Addr) (vs : List B3) : Prop :=
  0 < vs.length → ∃ b off, A = some ⟨b, off, none⟩ ∧ b < Bd ∧ ∀ i, i < vs.length → w.cell? ⟨b, off + i * 3, none⟩ = some (.int .i64 (vs.getD i z3).1) ∧ w.cell? ⟨b, off + i * 3 + 1, none⟩ = some (.int .i64 (vs.getD i z3).2.1) ∧ w.cell? ⟨b, off + i * 3 + 2, none⟩ = some (.int .i64 (vs.getD i z3).2.2)
section
variable {w w' : World} {Bd Bd' : Nat} {A : Option Addr} {vs : List B3}
theorem Rd3.keep (h : Rd3 w Bd A vs) (hk : ∀ b o, b < Bd → w'.cell? ⟨b, o, none⟩ = w.cell? ⟨b, o, none⟩) : Rd3 w' Bd A vs := fun hn => by
  obtain ⟨b, off, e, hb, hc⟩ := h hn
  exact ⟨b, off, e, hb, fun i hi => ⟨(hk _ _ hb).trans (hc i hi).1, (hk _ _ hb).trans (hc i hi).2.1, (hk _ _ hb).trans (hc i hi).2.2⟩⟩
theorem Rd3.more (h : Rd3 w Bd A vs) (hB : Bd ≤ Bd') : Rd3 w Bd' A vs := fun hn => by
  obtain ⟨b, off, e, hb, hc⟩ := h hn
  exact ⟨b, off, e, by omega, hc⟩
theorem Rd3.below (h : Rd3 w Bd A vs) (hb : Below Bd w w') : Rd3 w' Bd A vs := h.keep fun _ _ hp => hb.cell hp
theorem Rd3.alloc (h : Rd3 w Bd A vs) (hB : Bd ≤ w.heap.size) (o : Obj) : Rd3 (w.alloc o) Bd A vs := h.keep fun b o' hp => World.cell?_alloc_lt w o ⟨b, o', none⟩ (by simpa using (show b < w.heap.size by omega))
theorem Rd3.on (h : Rd3 w w.heap.size A vs) (hb : Below w.heap.size w w') : Rd3 w' w'.heap.size A vs := (h.below hb).more hb.size
theorem Rd3.up (h : Rd3 w w.heap.size A vs) (O : Obj) : Rd3 (w.alloc O) (w.alloc O).heap.size A vs := (h.alloc (Nat.le_refl _) O).more (by simp)
theorem Rd3.dr (h : Rd3 w w.heap.size A vs) : Rd3 w.drew w.drew.heap.size A vs := h
theorem Rd3.nil_ : Rd3 w Bd A [] := fun h => absurd h (by simp)
theorem Rd3.at_ (h : Rd3 w Bd A vs) {k : Nat} (hk : k < vs.length) : ∃ b off, A = some ⟨b, off, none⟩ ∧ b < Bd ∧ w.cell? ⟨b, off + k * 3, none⟩ = some (.int .i64 (vs.getD k z3).1) ∧ w.cell? ⟨b, off + k * 3 + 1, none⟩ = some (.int .i64 (vs.getD k z3).2.1) ∧ w.cell? ⟨b, off + k * 3 + 2, none⟩ = some (.int .i64 (vs.getD k z3).2.2) := by
  obtain ⟨b, off, rfl, hb, hc⟩ := h (by omega)
  exact ⟨b, off, rfl, hb, hc k hk⟩
end

/-- The first k ballots of vs stand in the cells cs, which has room for all of vs. -/
def PC3 (cs : Array Value) (vs : List B3) (k : Nat) : Prop :=
  cs.size = vs.length * 3 ∧ ∀ i, i < k → cs[i * 3]? = some (.int .i64 (vs.getD i z3).1) ∧ cs[i * 3 + 1]? = some (.int .i64 (vs.getD i z3).2.1) ∧ cs[i * 3 + 2]? = some (.int .i64 (vs.getD i z3).2.2)
theorem PC3.zero {cs : Array Value} {vs : List B3} (h : cs.size = vs.length * 3) : PC3 cs vs 0 := ⟨h, fun i hi => absurd hi (by omega)⟩
theorem three {cs : Array Value} {k : Nat} {a b c : Value} (hs : k * 3 + 2 < cs.size) (i : Nat) :
    (((cs.setIfInBounds (k * 3) a).setIfInBounds (k * 3 + 1) b).setIfInBounds (k * 3 + 2) c)[i * 3]? = (if i = k then some a else cs[i * 3]?) ∧
    (((cs.setIfInBounds (k * 3) a).setIfInBounds (k * 3 + 1) b).setIfInBounds (k * 3 + 2) c)[i * 3 + 1]? = (if i = k then some b else cs[i * 3 + 1]?) ∧
    (((cs.setIfInBounds (k * 3) a).setIfInBounds (k * 3 + 1) b).setIfInBounds (k * 3 + 2) c)[i * 3 + 2]? = (if i = k then some c else cs[i * 3 + 2]?) := by
  by_cases e : i = k
  · subst e
    simp only [if_true]
    refine ⟨?_, ?_, ?_⟩
    · rw [Array.getElem?_setIfInBounds_ne (by omega), Array.getElem?_setIfInBounds_ne (by omega), Array.getElem?_setIfInBounds_self_of_lt (by omega)]
    · rw [Array.getElem?_setIfInBounds_ne (by omega), Array.getElem?_setIfInBounds_self_of_lt (by simp; omega)]
    · rw [Array.getElem?_setIfInBounds_self_of_lt (by simp; omega)]
  · simp only [if_neg e]
    refine ⟨?_, ?_, ?_⟩ <;> rw [Array.getElem?_setIfInBounds_ne (by omega), Array.getElem?_setIfInBounds_ne (by omega), Array.getElem?_setIfInBounds_ne (by omega)]
theorem PC3.step {cs : Array Value} {vs : List B3} {k : Nat} (h : PC3 cs vs k) (hk : k < vs.length) :
    PC3 (((cs.setIfInBounds (k * 3) (.int .i64 (vs.getD k z3).1)).setIfInBounds (k * 3 + 1) (.int .i64 (vs.getD k z3).2.1)).setIfInBounds (k * 3 + 2) (.int .i64 (vs.getD k z3).2.2)) vs (k + 1) := by
  refine ⟨by simpa using h.1, fun i hi => ?_⟩
  have hs := h.1
  obtain ⟨h0, h1, h2⟩ := three (a := .int .i64 (vs.getD k z3).1) (b := .int .i64 (vs.getD k z3).2.1) (c := .int .i64 (vs.getD k z3).2.2) (show k * 3 + 2 < cs.size by omega) i
  rw [h0, h1, h2]
  by_cases e : i = k
  · subst e; simp
  · simp only [if_neg e]; exact h.2 i (by omega)
theorem PC3.rd {w : World} {g t Bd : Nat} {cs : Array Value} {vs : List B3} (h : PC3 cs vs vs.length) (hb : Blk w g t cs) (hg : g < Bd) : Rd3 w Bd (some ⟨g, 0, none⟩) vs :=
  fun _ => ⟨g, 0, rfl, hg, fun i hi => by
    have := h.2 i hi
    rw [Nat.zero_add, hb.cell, hb.cell, hb.cell]; exact this⟩

/-- The first n ballots bear the marks k, k + 1, .. -/
def MK3 (cs : Array Value) (k : Int) (n : Nat) : Prop :=
  ∀ i, i < n → cs[i * 3]? = some (.int .i64 (k + 3 * i)) ∧ cs[i * 3 + 1]? = some (.int .i64 (k + 3 * i + 1)) ∧ cs[i * 3 + 2]? = some (.int .i64 (k + 3 * i + 1 + 1))
theorem MK3.step {cs : Array Value} {k : Int} {j : Nat} (h : MK3 cs k j) (hs : j * 3 + 2 < cs.size) :
    MK3 (((cs.setIfInBounds (j * 3) (.int .i64 (k + 3 * j))).setIfInBounds (j * 3 + 1) (.int .i64 (k + 3 * j + 1))).setIfInBounds (j * 3 + 2) (.int .i64 (k + 3 * j + 1 + 1))) k (j + 1) := by
  intro i hi
  obtain ⟨h0, h1, h2⟩ := three (a := .int .i64 (k + 3 * j)) (b := .int .i64 (k + 3 * j + 1)) (c := .int .i64 (k + 3 * j + 1 + 1)) hs i
  rw [h0, h1, h2]
  by_cases e : i = j
  · subst e; simp
  · simp only [if_neg e]; exact h i (by omega)
end Go.Proofs.Ytfdfjmibjnmhpaa.B

namespace Go.Proofs.Ytfdfjmibjnmhpaa.V
open Go.RowKit Go.Proofs.Ytfdfjmibjnmhpaa.B
theorem ret_boolB {a b : Bool} (h : a = b) : Ending.returned (.bool a) = .returned (.bool b) := by rw [h]

theorem toBallot_any (a b c : Int) (w : World) :
    Calls Try.prog 105 #[.agg #[.int .i64 a, .int .i64 b, .int .i64 c]] w fun e w' => e = .returned (.agg #[.int .i64 a, .int .i64 b, .int .i64 c]) ∧ Below w.heap.size w w' := by
  go_enter Try.func105, Try.ntmps105
  go_wp2
  refine bodyPost_ret (v := .agg #[.int .i64 a, .int .i64 b, .int .i64 c]) (by simp [results, Try.results105, go_sem]) rfl ⟨rfl, ?_⟩
  repeat (first | exact Below.refl _ _ | refine Below.alloc ?_ (by simp <;> omega) _)

theorem eqBallot_same (a b c : Int) (w : World) :
    Calls Try.prog 115 #[.agg #[.int .i64 a, .int .i64 b, .int .i64 c], .agg #[.int .i64 a, .int .i64 b, .int .i64 c]] w fun e w' => e = .returned (.bool true) ∧ Below w.heap.size w w' := by
  have hne : ∀ i : Int, (i != i) = false := fun i => by simp
  go_enter Try.func115, Try.ntmps115
  go_wp2
  go_ret
  exact ⟨rfl, by repeat (first | exact Below.refl _ _ | refine Below.alloc ?_ (by simp) _)⟩

theorem szB_any (A : Option Addr) (n c : Nat) (left : Int) (w : World) (hn : n ≤ maxLen) (h0 : 0 ≤ left) (h1 : left ≤ 1048576) :
    Calls Try.prog 68 #[.slice A n c, .int .i64 left] w fun e w' => e = .returned (.int .i64 (if left < n then -1 else left - n)) ∧ w = w' := by
  unfold maxLen at hn
  by_cases h : left < n
  · rw [if_pos h]
    go_enter Try.func68, Try.ntmps68
    go_wp2
    go_ret
    exact ⟨rfl, rfl⟩
  · rw [if_neg h]
    go_enter Try.func68, Try.ntmps68
    go_wp2
    go_ret
    exact ⟨rfl, rfl⟩

theorem szTally_big (A : Option Addr) (n c : Nat) (left : Int) (w : World) (hn : n ≤ maxLen) (h0 : 0 ≤ left) (h1 : left ≤ 1048576) (h : left < n) :
    Calls Try.prog 34 #[.agg #[.slice A n c], .int .i64 left] w fun e w' => e = .returned (.int .i64 (-1)) ∧ Below w.heap.size w w' := by
  have hc : ∀ W, Calls Try.prog 68 #[.slice A n c, .int .i64 left] W fun e w' => e = .returned (.int .i64 (-1)) ∧ W = w' := fun W => by
    have := szB_any A n c left W hn h0 h1
    rwa [if_pos h] at this
  have HC := Lib.hid hc; clear hc
  go_enter Try.func34, Try.ntmps34
  go_wp2_with (go_at_call 68; refine (HC.out _).mono ?_; rintro e w1 ⟨rfl, rfl⟩)
  go_ret
  exact ⟨rfl, (Below.refl _ _).alloc (Nat.le_refl _) _⟩
theorem szTally_small (A : Option Addr) (n c : Nat) (left : Int) (w : World) (hn : n ≤ maxLen) (h0 : 0 ≤ left) (h1 : left ≤ 1048576) (h : (n : Int) ≤ left) :
    Calls Try.prog 34 #[.agg #[.slice A n c], .int .i64 left] w fun e w' => e = .returned (.int .i64 (left - n)) ∧ Below w.heap.size w w' := by
  have hc : ∀ W, Calls Try.prog 68 #[.slice A n c, .int .i64 left] W fun e w' => e = .returned (.int .i64 (left - n)) ∧ W = w' := fun W => by
    have := szB_any A n c left W hn h0 h1
    rwa [if_neg (by omega)] at this
  have HC := Lib.hid hc; clear hc
  go_enter Try.func34, Try.ntmps34
  go_wp2_with (go_at_call 68; refine (HC.out _).mono ?_; rintro e w1 ⟨rfl, rfl⟩)
  go_ret
  exact ⟨rfl, (Below.refl _ _).alloc (Nat.le_refl _) _⟩

theorem infoB3 : (Try.prog.info? 119).map (fun i => (i.zero, i.size, i.bytes)) = some (some (.agg #[.int .i64 0, .int .i64 0, .int .i64 0]), 3, 24) := by kernel_rfl

set_option maxHeartbeats 800000 in
theorem toBallotS_any (A : Option Addr) (c : Nat) (vs : List B3) (w : World) (hr : Rd3 w w.heap.size A vs) (hn : vs.length ≤ 1048576) :
    Calls Try.prog 78 #[.slice A vs.length c] w fun e w' => ∃ g cs, e = .returned (.slice (some ⟨g, 0, none⟩) vs.length vs.length) ∧ w.heap.size ≤ g ∧ Blk w' g 119 cs ∧ PC3 cs vs vs.length ∧ Below w.heap.size w w' := by
  obtain ⟨i0, hi, hz0, hz1, hz2⟩ := info_parts infoB3
  have hmk : ∀ u : World, (Instr.makeSlice 35 (.int .i64 (vs.length : Int)) (.int .i64 (vs.length : Int))).run Try.prog u =
      .ok (.slice (some ⟨u.heap.size, 0, none⟩) vs.length vs.length) (u.alloc (.cells (madeCells #[.int .i64 0, .int .i64 0, .int .i64 0] (vs.length * 3)) 119)) := fun u => by
    have h := run_make_rowN (P := Try.prog) 35 119 i0 (.agg #[.int .i64 0, .int .i64 0, .int .i64 0]) Try.underlying35 hi hz0 .i64 .i64 vs.length vs.length (Nat.le_refl _) (by rw [hz2]; omega) (by omega) u
    rw [h, hz1]; rfl
  clear hz2 hz1 hz0 hi
  obtain ⟨n, hvn⟩ : ∃ n, vs.length = n := ⟨_, rfl⟩
  rw [hvn] at hn hmk ⊢
  go_enter Try.func78, Try.ntmps78
  go_wp2
  have HV := Lib.hid hvn; clear hvn
  go_loopw [4] (fun i wr => ∃ (k : Nat) (cs : Array Value), k ≤ n ∧ i = .int .i64 k ∧ Blk wr w.heap.size 119 cs ∧ Hid (PC3 cs vs k) ∧ Below w.heap.size w wr) (fun i _ => n - (intOf i).toNat)
  case atStart => exact ⟨0, _, Nat.zero_le _, rfl, Blk.new _ _ _, PC3.zero (by rw [HV.out]; simp [madeCells]), (Below.refl _ _).alloc (Nat.le_refl _) _⟩
  case round =>
    obtain ⟨k, cs, hk, rfl, hblk, hpc, hbel⟩ := hrel
    by_cases hlt : k < n
    · obtain ⟨b, off, rfl, hb, hc0, hc1, hc2⟩ := Rd3.at_ (hr.below hbel) (k := k) (by rw [HV.out]; omega)
      clear hr
      have hsz : cs.size = n * 3 := by rw [hpc.out.1, HV.out]
      obtain ⟨x0, hx0⟩ : ∃ x, cs[k * 3]? = some x := ⟨_, Array.getElem?_eq_getElem (by omega)⟩
      obtain ⟨x1, hx1⟩ : ∃ x, cs[k * 3 + 1]? = some x := ⟨_, Array.getElem?_eq_getElem (by omega)⟩
      obtain ⟨x2, hx2⟩ : ∃ x, cs[k * 3 + 2]? = some x := ⟨_, Array.getElem?_eq_getElem (by omega)⟩
      have HX0 := Lib.hid hx0
      have HX1 := Lib.hid hx1
      have HX2 := Lib.hid hx2
      have HP : Hid (PC3 (((cs.setIfInBounds (k * 3) (.int .i64 (vs.getD k z3).1)).setIfInBounds (k * 3 + 1) (.int .i64 (vs.getD k z3).2.1)).setIfInBounds (k * 3 + 2) (.int .i64 (vs.getD k z3).2.2)) vs (k + 1)) := PC3.step hpc.out (by rw [HV.out]; omega)
      clear hsz hx0 hx1 hx2 hpc
      obtain ⟨⟨va, vb, vc⟩, hu⟩ : ∃ u, vs.getD k z3 = u := ⟨_, rfl⟩
      rw [hu] at hc0 hc1 hc2 HP
      clear hu
      go_wp2_with (go_at_call 105; refine (toBallot_any _ _ _ _).mono ?_; rintro e w1 ⟨rfl, hb1⟩; have hblk1 := hblk.below hb1 hblk.lt; have hf0 := hblk1.frozen (k * 3); have hf1 := hblk1.frozen (k * 3 + 1); have hf2 := hblk1.frozen (k * 3 + 2); have hy0 := (hblk1.cell (k * 3)).trans HX0.out; have hy1 := (hblk1.cell (k * 3 + 1)).trans HX1.out; have hy2 := (hblk1.cell (k * 3 + 2)).trans HX2.out)
      go_roundw
      case rel =>
        refine ⟨k + 1, _, by omega, by go_num, ((hblk1.set_ _ _).set_ _ _).set_ _ _, HP, (((hbel.trans (hb1.mono hbel.size)).setCell (Nat.le_refl _) _).setCell (Nat.le_refl _) _).setCell (Nat.le_refl _) _⟩
      case measure => simp [intOf]; omega
    · go_wp2
      go_ret
      have hkn : k = n := by omega
      subst hkn
      exact ⟨_, cs, rfl, Nat.le_refl _, hblk, hpc.out, hbel⟩
end Go.Proofs.Ytfdfjmibjnmhpaa.V
