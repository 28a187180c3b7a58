/-
  Closed facts on the seat's program that every statement's own form asks, found without spelling the program's head sign by sign in the kernel. Plain lemmas on memory for the proofs of this seat: a slice of pairs of integers that reads as a list, and blocks that are kept. What the helpers of the laws do with votes: contracts of toVote, eqVote and szVoteS. Lists of cells that are read, and append onto a row of the call's own from whatever source: the guide's own lemmas, copied as it asks, and how 'Rd' gives 'Reads'. Plain facts on blocks and frames: what Bal2 holds of them, without the tallies. Reports in memory: slices of reports, each with a slice of votes, and how they read. No statement is proved here.
-/
import Derived.Test.YtfdfjmibjnmhpaaRows
import Derived.ProofKit
import Derived.JoinedOf
import Derived.WalkKit
import Derived.OpenShut
import Derived.Lib.Hide
import Derived.Deep.Slices
import Derived.Deep.Fields
import Derived.Deep.Draws
import Derived.Deep.QuietTactic
import Derived.BigQuiet
import Derived.Deep.OwnRows
import Derived.Lib.SmallJoins
import Derived.Test.YtfdfjmibjnmhpaaChecked
import Derived.StillTailTactics
import Derived.Below
import Derived.Laws.OwnMore
import Derived.Deep.AppendLies
import Derived.Maps.AppendAt
import Derived.RegionTactic
import Derived.OwnWalk
set_option maxRecDepth 100000
set_option linter.unusedVariables false
namespace Go.Proofs.Ytfdfjmibjnmhpaa.D
open Go.RowKit Go.ChangeShapes Go.WideShapes
theorem toList_of {s : String} {l : List Char} (h : s = String.ofList l) : s.toList = l := by rw [h, String.toList_ofList]
def Door (P : Program) : Prop := ∃ c r, behindMainWord (wordsSigns P.initOrder.toList) = c :: r ∧ (c == "cut".toList) = true ∧ (c == "gc".toList || c == "spec".toList) = false ∧ (c == "carried".toList) = false ∧
    (stripLifts liftWords (c :: r)).1 = [] ∧ ((stripLifts liftWords (c :: r)).2.head? == some "cut".toList) = true
theorem door : Door Try.prog := by
  unfold Door
  rw [toList_of (s := Try.prog.initOrder) rfl]
  refine ⟨_, _, rfl, ?_, ?_, ?_, ?_, ?_⟩ <;> kernel_rfl
theorem make_of {P : Program} (h : Door P) : P.make = some .cut := by
  obtain ⟨c, r, h1, h2, h3, h4, h5, h6⟩ := h
  unfold Program.make
  rw [h1]
  dsimp only
  rw [if_neg (by rw [h3]; exact Bool.false_ne_true), if_pos (by rw [h2]; rfl)]
theorem enter_of {P : Program} (h : Door P) (l1 : P.laysLater = false) (l2 : P.bearsReflect = false) (l3 : P.doorFits [] = true) : P.mayEnter = true := by
  obtain ⟨c, r, h1, h2, h3, h4, h5, h6⟩ := h
  unfold Program.mayEnter
  rw [h1]
  dsimp only
  rw [h3, h4, h5, h6, l1, l2, l3]
  rfl
theorem lifts_of {P : Program} (h : Door P) : P.headLifts = [] := by
  obtain ⟨c, r, h1, h2, h3, h4, h5, h6⟩ := h
  unfold Program.headLifts
  rw [h1]
  simp [h5]
theorem final_of {P : Program} (h : Door P) : P.liftsFinal = false := by
  have hl := lifts_of h
  obtain ⟨c, r, h1, h2, h3, h4, h5, h6⟩ := h
  unfold Program.liftsFinal
  rw [h1, hl]
  simp at h4
  simp [h4]
theorem make_is : Try.prog.make = some .cut := make_of door
theorem enter_is : Try.prog.mayEnter = true := enter_of door (by kernel_rfl) (by kernel_rfl) (by kernel_rfl)
theorem final_is : Try.prog.liftsFinal = false := final_of door
theorem own : ownKnob Try.prog.godebug = none := by kernel_rfl
theorem laidOut : laidOutB Try.prog = true := by kernel_rfl
end Go.Proofs.Ytfdfjmibjnmhpaa.D

namespace Go.Proofs.Ytfdfjmibjnmhpaa.B
open Go.RowKit Go.ChangeShapes Go.WideShapes Go.Deep

/-- A slice value at address A reads, below block Bd, as the pairs vs: pair i lies in the cells 2i and 2i+1. -/
def Rd (w : World) (Bd : Nat) (A : Option Addr) (vs : List (Int × Int)) : Prop :=
  0 < vs.length → ∃ b off, A = some ⟨b, off, none⟩ ∧ b < Bd ∧
    ∀ i, i < vs.length → w.cell? ⟨b, off + i * 2, none⟩ = some (.int .i64 (vs.getD i (0, 0)).1) ∧ w.cell? ⟨b, off + i * 2 + 1, none⟩ = some (.int .i64 (vs.getD i (0, 0)).2)

section
variable {w w' : World} {Bd Bd' : Nat} {A : Option Addr} {vs : List (Int × Int)}
theorem Rd.keep (h : Rd w Bd A vs) (hk : ∀ b o, b < Bd → w'.cell? ⟨b, o, none⟩ = w.cell? ⟨b, o, none⟩) : Rd w' Bd A vs := fun hn => by
  obtain ⟨b, off, e, hb, hc⟩ := h hn
  exact ⟨b, off, e, hb, fun i hi => ⟨(hk _ _ hb).trans (hc i hi).1, (hk _ _ hb).trans (hc i hi).2⟩⟩
theorem Rd.more (h : Rd w Bd A vs) (hB : Bd ≤ Bd') : Rd w Bd' A vs := fun hn => by
  obtain ⟨b, off, e, hb, hc⟩ := h hn
  exact ⟨b, off, e, by omega, hc⟩
theorem Rd.below (h : Rd w Bd A vs) (hb : Below Bd w w') : Rd w' Bd A vs := h.keep fun _ _ hp => hb.cell hp
theorem Rd.drewN (h : Rd w Bd A vs) (k : Nat) : Rd (w.drewN k) Bd A vs := h
theorem Rd.alloc (h : Rd w Bd A vs) (hB : Bd ≤ w.heap.size) (o : Obj) : Rd (w.alloc o) Bd A vs := h.keep fun b o' hp => World.cell?_alloc_lt w o ⟨b, o', none⟩ (by simpa using (show b < w.heap.size by omega))
theorem Rd.nil_ : Rd w Bd A [] := fun h => absurd h (by simp)
end

/-- Block g is just the cells cs of element type t, none frozen. -/
def Blk (w : World) (g : Nat) (t : TypeId) (cs : Array Value) : Prop := w.heap[g]? = some (.cells cs t (0, 0))
section
variable {w w' : World} {g : Nat} {t : TypeId} {cs : Array Value}
theorem Blk.lt (h : Blk w g t cs) : g < w.heap.size := by
  rcases Nat.lt_or_ge g w.heap.size with hlt | hge
  · exact hlt
  · unfold Blk at h; rw [Array.getElem?_eq_none hge] at h; cases h
theorem Blk.cell (h : Blk w g t cs) (i : Nat) : w.cell? ⟨g, i, none⟩ = cs[i]? := cell_of_row w g i cs t (0, 0) h
theorem Blk.frozen (h : Blk w g t cs) (i : Nat) : w.frozen? ⟨g, i, none⟩ = false := by
  unfold Blk at h
  simp [World.frozen?, h]
theorem Blk.new (w : World) (t : TypeId) (cs : Array Value) : Blk (w.alloc (.cells cs t)) w.heap.size t cs := heap_alloc_new w _
theorem Blk.drewN (h : Blk w g t cs) (n : Nat) : Blk (w.drewN n) g t cs := h
theorem Blk.alloc (h : Blk w g t cs) (o : Obj) : Blk (w.alloc o) g t cs := (Below.heap_alloc w o g h.lt).trans h
theorem Blk.set_ (h : Blk w g t cs) (i : Nat) (u : Value) : Blk (w.setCell ⟨g, i, none⟩ u) g t (cs.setIfInBounds i u) := by
  unfold Blk at h ⊢
  simp [World.setCell, Array.getElem?_modify, h]
theorem Blk.far (h : Blk w g t cs) {p : Addr} (hp : g ≠ p.block) (u : Value) : Blk (w.setCell p u) g t cs := (Below.heap_setCell w p u g hp).trans h
theorem Blk.below {Bd : Nat} (h : Blk w g t cs) (hb : Below Bd w w') (hg : g < Bd) : Blk w' g t cs := (hb.block g hg).trans h
end

/-- The first k pairs of vs stand in the cells cs, which has room for all of vs. -/
def PC (cs : Array Value) (vs : List (Int × Int)) (k : Nat) : Prop :=
  cs.size = vs.length * 2 ∧ ∀ i, i < k → cs[i * 2]? = some (.int .i64 (vs.getD i (0, 0)).1) ∧ cs[i * 2 + 1]? = some (.int .i64 (vs.getD i (0, 0)).2)

theorem PC.zero {cs : Array Value} {vs : List (Int × Int)} (h : cs.size = vs.length * 2) : PC cs vs 0 := ⟨h, fun i hi => absurd hi (by omega)⟩
theorem PC.step {cs : Array Value} {vs : List (Int × Int)} {k : Nat} (h : PC cs vs k) (hk : k < vs.length) :
    PC ((cs.setIfInBounds (k * 2) (.int .i64 (vs.getD k (0, 0)).1)).setIfInBounds (k * 2 + 1) (.int .i64 (vs.getD k (0, 0)).2)) vs (k + 1) := by
  refine ⟨by simpa using h.1, fun i hi => ?_⟩
  have hs := h.1
  by_cases e : i = k
  · subst e
    constructor
    · rw [Array.getElem?_setIfInBounds_ne (by omega), Array.getElem?_setIfInBounds_self_of_lt (by omega)]
    · rw [Array.getElem?_setIfInBounds_self_of_lt (by simp; omega)]
  · have := h.2 i (by omega)
    constructor
    · rw [Array.getElem?_setIfInBounds_ne (by omega), Array.getElem?_setIfInBounds_ne (by omega)]; exact this.1
    · rw [Array.getElem?_setIfInBounds_ne (by omega), Array.getElem?_setIfInBounds_ne (by omega)]; exact this.2
theorem PC.rd {w : World} {g t Bd : Nat} {cs : Array Value} {vs : List (Int × Int)} (h : PC cs vs vs.length) (hb : Blk w g t cs) (hg : g < Bd) : Rd w Bd (some ⟨g, 0, none⟩) vs :=
  fun _ => ⟨g, 0, rfl, hg, fun i hi => by
    have := h.2 i hi
    constructor
    · rw [Nat.zero_add, hb.cell]; exact this.1
    · rw [Nat.zero_add, hb.cell]; exact this.2⟩

/-- make([]T, n) for elements of any number of cells -/
theorem run_make_rowN {P : Program} (t e : TypeId) (i : TypeInfo) (z : Value) (ht : P.underlying t = some (.slice e)) (hi : P.info? e = some i) (hz : i.zero = some z)
    (kl kc : IntKind) (n c : Nat) (hnc : n ≤ c) (hbytes : i.bytes * c ≤ 281474976710656) (h63 : c ≤ 9223372036854775807) (w : World) :
    (Instr.makeSlice t (.int kl (n : Int)) (.int kc (c : Int))).run P w = .ok (.slice (some ⟨w.heap.size, 0, none⟩) n c) (w.alloc (.cells (madeCells z.cells (c * i.size)) e)) := by
  have hb : (i.bytes : Int) * (c : Int) ≤ 281474976710656 := by
    have h : ((i.bytes * c : Nat) : Int) ≤ 281474976710656 := by omega
    rwa [Int.natCast_mul] at h
  have hr := run_make (P := P) w t e i z ht hi hz kl kc n c (by omega) (by omega) hb (by omega)
  simp only [Int.toNat_natCast] at hr
  exact hr

/-- The two rules that the walk wants behind a contract that ends in 'Below'. -/
theorem bcell {W w1 : World} (hb : Below W.heap.size W w1) : (∀ b o, b < W.heap.size → w1.cell? ⟨b, o, none⟩ = W.cell? ⟨b, o, none⟩) ∧ (∀ b o, b < W.heap.size → w1.frozen? ⟨b, o, none⟩ = W.frozen? ⟨b, o, none⟩) :=
  ⟨fun b o h => hb.cell (p := ⟨b, o, none⟩) h, fun b o h => hb.frozen (p := ⟨b, o, none⟩) h⟩

/-- Behind a call that ends in 'Below' each cell that was there reads as it did. -/
def Keeps (w w' : World) : Prop := ∀ (p : Addr) (v : Value), w.cell? p = some v → w'.cell? p = some v
theorem Keeps.of {w w' : World} (h : Below w.heap.size w w') : Keeps w w' := fun p _ hp => (h.cell (World.block_lt_of_cell? w p hp)).trans hp

/-! A region that draws its order, whose operations read old memory and call functions that make new memory but hand back one fixed value: one walk of the order of the text. The class of worlds: 'what was there when the region began is as it was'. -/
structure Lat (W0 : World) where
  w : World
  below : Below W0.heap.size W0 w
instance (W0 : World) : Nonempty (Lat W0) := ⟨⟨W0, Below.refl _ _⟩⟩

section
variable {P : Program} {W0 : World}
theorem wp_region_lat {id : Nat} {Q : Exit → Act → World → Prop} {a : Act} {l : List Oper} (hm : P.follows .mixedOrders = true) (hB : Region.lexB .any l.toArray = true)
    (h : wpQuiet P l.toArray (fun w' => ∃ x : Lat W0, w' = x.w) (fun a' => ∀ w', (∃ x : Lat W0, w' = x.w) → Q .normal a' w') l a) : (Code.region id l.toArray true).wp P Q a W0 :=
  wp_region_quiet (C := fun w' => ∃ x : Lat W0, w' = x.w) hm hB ⟨⟨W0.drew, (Below.refl _ _).drew⟩, rfl⟩ (by simpa using h)
theorem lat_call {f : FuncId} {args : Array Value} (x : Lat W0) {v : Value} (h : Calls P f args x.w fun e w' => e = .returned v ∧ Below x.w.heap.size x.w w') :
    Calls P f args x.w fun e w'' => e = .returned v ∧ ∃ y : Lat W0, w'' = y.w :=
  h.mono fun _ w' ⟨he, hb⟩ => ⟨he, ⟨w', x.below.trans (hb.mono x.below.size)⟩, rfl⟩
theorem lat_same {f : FuncId} {args : Array Value} (x : Lat W0) {v : Value} (h : Calls P f args x.w fun e w' => e = .returned v ∧ w' = x.w) :
    Calls P f args x.w fun e w'' => e = .returned v ∧ ∃ y : Lat W0, w'' = y.w :=
  h.mono fun _ _ ⟨he, hb⟩ => ⟨he, x, hb⟩
theorem Lat.cell (x : Lat W0) {p : Addr} {v : Value} (h : W0.cell? p = some v) : x.w.cell? p = some v := (x.below.cell (World.block_lt_of_cell? W0 p h)).trans h
theorem lat_blk {g : Nat} {t : TypeId} {cs : Array Value} (h : Blk W0 g t cs) : ∀ (x : Lat W0) (i : Nat), x.w.cell? ⟨g, i, none⟩ = cs[i]? := fun x i => (h.below x.below h.lt).cell i
end

end Go.Proofs.Ytfdfjmibjnmhpaa.B

namespace Go.Proofs.Ytfdfjmibjnmhpaa.V
open Go.RowKit Go.Proofs.Ytfdfjmibjnmhpaa.B

theorem ret_bool {a b : Bool} (h : a = b) : Ending.returned (.bool a) = .returned (.bool b) := by rw [h]

theorem toVote_any (a b : Int) (w : World) :
    Calls Try.prog 39 #[.agg #[.int .i64 a, .int .i64 b]] w fun e w' => e = .returned (.agg #[.int .i64 a, .int .i64 b]) ∧ Below w.heap.size w w' := by
  go_enter Try.func39, Try.ntmps39
  go_wp2
  refine bodyPost_ret (v := .agg #[.int .i64 a, .int .i64 b]) (by simp [results, Try.results39, go_sem]) rfl ⟨rfl, ?_⟩
  repeat (first | exact Below.refl _ _ | refine Below.alloc ?_ (by simp <;> omega) _)

theorem eqVote_any (a b c d : Int) (w : World) :
    Calls Try.prog 45 #[.agg #[.int .i64 a, .int .i64 b], .agg #[.int .i64 c, .int .i64 d]] w fun e w' => e = .returned (.bool (decide (a = c ∧ b = d))) ∧ Below w.heap.size w w' := by
  go_enter Try.func45, Try.ntmps45
  go_wp2
  all_goals go_ret
  all_goals refine ⟨ret_bool ?_, by repeat (first | exact Below.refl _ _ | refine Below.alloc ?_ (by simp) _)⟩
  all_goals simp_all

theorem eqVote_is (q : Bool) (a b c d : Int) (hq : decide (a = c ∧ b = d) = q) (w : World) :
    Calls Try.prog 45 #[.agg #[.int .i64 a, .int .i64 b], .agg #[.int .i64 c, .int .i64 d]] w fun e w' => e = .returned (.bool q) ∧ Below w.heap.size w w' := by
  rw [← hq]; exact eqVote_any a b c d w

theorem sz_any (A : Option Addr) (n c : Nat) (left : Int) (w : World) (hn : n ≤ maxLen) (h0 : 0 ≤ left) (h1 : left ≤ 1048576) :
    Calls Try.prog 33 #[.slice A n c, .int .i64 left] w fun e w' => e = .returned (.int .i64 (if left < n then -1 else left - n)) ∧ w = w' := by
  unfold maxLen at hn
  by_cases h : left < n
  · rw [if_pos h]
    go_enter Try.func33, Try.ntmps33
    go_wp2
    go_ret
    exact ⟨rfl, rfl⟩
  · rw [if_neg h]
    go_enter Try.func33, Try.ntmps33
    go_wp2
    go_ret
    exact ⟨rfl, rfl⟩

theorem infoV : (Try.prog.info? 34).map (fun i => (i.zero, i.size, i.bytes)) = some (some (.agg #[.int .i64 0, .int .i64 0]), 2, 16) := by kernel_rfl

set_option maxHeartbeats 400000 in
theorem toVoteS_any (A : Option Addr) (c : Nat) (vs : List (Int × Int)) (w : World) (hr : Rd w w.heap.size A vs) (hn : vs.length ≤ 1048576) :
    Calls Try.prog 38 #[.slice A vs.length c] w fun e w' => ∃ g cs, e = .returned (.slice (some ⟨g, 0, none⟩) vs.length vs.length) ∧ w.heap.size ≤ g ∧ Blk w' g 34 cs ∧ PC cs vs vs.length ∧ Below w.heap.size w w' := by
  obtain ⟨i0, hi, hz0, hz1, hz2⟩ := info_parts infoV
  have hmk : ∀ u : World, (Instr.makeSlice 33 (.int .i64 (vs.length : Int)) (.int .i64 (vs.length : Int))).run Try.prog u =
      .ok (.slice (some ⟨u.heap.size, 0, none⟩) vs.length vs.length) (u.alloc (.cells (madeCells #[.int .i64 0, .int .i64 0] (vs.length * 2)) 34)) := fun u => by
    have h := run_make_rowN (P := Try.prog) 33 34 i0 (.agg #[.int .i64 0, .int .i64 0]) Try.underlying33 hi hz0 .i64 .i64 vs.length vs.length (Nat.le_refl _) (by rw [hz2]; omega) (by omega) u
    rw [h, hz1]; rfl
  clear hz2 hz1 hz0 hi
  obtain ⟨n, hvn⟩ : ∃ n, vs.length = n := ⟨_, rfl⟩
  rw [hvn] at hn hmk ⊢
  go_enter Try.func38, Try.ntmps38
  go_wp2
  have HV := Lib.hid hvn; clear hvn
  go_loopw [4] (fun i wr => ∃ (k : Nat) (cs : Array Value), k ≤ n ∧ i = .int .i64 k ∧ Blk wr w.heap.size 34 cs ∧ Hid (PC cs vs k) ∧ Below w.heap.size w wr) (fun i _ => n - (intOf i).toNat)
  case atStart => exact ⟨0, _, Nat.zero_le _, rfl, Blk.new _ _ _, PC.zero (by rw [HV.out]; simp [madeCells]), (Below.refl _ _).alloc (Nat.le_refl _) _⟩
  case round =>
    obtain ⟨k, cs, hk, rfl, hblk, hpc, hbel⟩ := hrel
    by_cases hlt : k < n
    · obtain ⟨b, off, rfl, hb, hc⟩ := hr (by rw [HV.out]; omega)
      have h2 := hc k (by rw [HV.out]; omega)
      rw [← hbel.cell (p := ⟨b, off + k * 2, none⟩) hb, ← hbel.cell (p := ⟨b, off + k * 2 + 1, none⟩) hb] at h2
      obtain ⟨hc0, hc1⟩ := h2
      clear hc hr
      have hsz : cs.size = n * 2 := by rw [hpc.out.1, HV.out]
      have hx0 : ∃ x, cs[k * 2]? = some x := ⟨_, Array.getElem?_eq_getElem (by omega)⟩
      have hx1 : ∃ x, cs[k * 2 + 1]? = some x := ⟨_, Array.getElem?_eq_getElem (by omega)⟩
      obtain ⟨x0, hx0⟩ := hx0
      obtain ⟨x1, hx1⟩ := hx1
      have HX0 := Lib.hid hx0
      have HX1 := Lib.hid hx1
      have HP : Hid (PC ((cs.setIfInBounds (k * 2) (.int .i64 (vs.getD k (0, 0)).1)).setIfInBounds (k * 2 + 1) (.int .i64 (vs.getD k (0, 0)).2)) vs (k + 1)) := PC.step hpc.out (by rw [HV.out]; omega)
      clear hsz hx0 hx1 hpc
      generalize vs.getD k (0, 0) = v at *
      obtain ⟨va, vb⟩ := v
      go_wp2_with (go_at_call 39; refine (toVote_any _ _ _).mono ?_; rintro e w1 ⟨rfl, hb1⟩; have hblk1 := hblk.below hb1 hblk.lt; have hf0 := hblk1.frozen (k * 2); have hf1 := hblk1.frozen (k * 2 + 1); have hy0 := (hblk1.cell (k * 2)).trans HX0.out; have hy1 := (hblk1.cell (k * 2 + 1)).trans HX1.out)
      go_roundw
      case rel => 
        refine ⟨k + 1, _, by omega, by go_num, (hblk1.set_ _ _).set_ _ _, HP, ((hbel.trans (hb1.mono hbel.size)).setCell (Nat.le_refl _) _).setCell (Nat.le_refl _) _⟩
      case measure => simp [intOf]; omega
    · go_wp2
      go_ret
      have hkn : k = n := by omega
      subst hkn
      exact ⟨_, cs, rfl, Nat.le_refl _, hblk, hpc.out, hbel⟩

theorem Rd.at_ {w : World} {Bd : Nat} {A : Option Addr} {vs : List (Int × Int)} (h : Rd w Bd A vs) {k : Nat} (hk : k < vs.length) :
    ∃ b off, A = some ⟨b, off, none⟩ ∧ b < Bd ∧ w.cell? ⟨b, off + k * 2, none⟩ = some (.int .i64 (vs.getD k (0, 0)).1) ∧ w.cell? ⟨b, off + k * 2 + 1, none⟩ = some (.int .i64 (vs.getD k (0, 0)).2) := by
  obtain ⟨b, off, rfl, hb, hc⟩ := h (by omega)
  exact ⟨b, off, rfl, hb, hc k hk⟩

set_option maxRecDepth 100000 in
set_option maxHeartbeats 400000 in
theorem eqVoteS_any (A C : Option Addr) (c d : Nat) (vs us : List (Int × Int)) (w : World) (hr : Rd w w.heap.size A vs) (hs : Rd w w.heap.size C us) (hn : vs.length ≤ 1048576) :
    Calls Try.prog 44 #[.slice A vs.length c, .slice C us.length d] w fun e w' => e = .returned (.bool (decide (vs = us))) ∧ Below w.heap.size w w' := by
  by_cases hlen : vs.length = us.length
  · obtain ⟨n, hvn⟩ : ∃ n, vs.length = n := ⟨_, rfl⟩
    have hun : us.length = n := by omega
    rw [hvn] at hn ⊢
    rw [hun] at ⊢
    have HV := Lib.hid hvn; clear hvn
    have HU := Lib.hid hun; clear hun
    clear hlen
    go_enter Try.func44, Try.ntmps44
    go_wp2
    go_loopw [5] (fun i wr => ∃ (k : Nat), k ≤ n ∧ i = .int .i64 k ∧ Hid (∀ j, j < k → vs.getD j (0, 0) = us.getD j (0, 0)) ∧ Below w.heap.size w wr) (fun i _ => n - (intOf i).toNat)
    case atStart => exact ⟨0, Nat.zero_le _, rfl, fun j hj => absurd hj (by omega), Below.refl _ _⟩
    case round =>
      obtain ⟨k, hk, rfl, hall, hbel⟩ := hrel
      by_cases hlt : k < n
      · obtain ⟨b, off, rfl, hb, hc0, hc1⟩ := Rd.at_ (hr.below hbel) (k := k) (by rw [HV.out]; omega)
        obtain ⟨b', off', rfl, hb', hc0', hc1'⟩ := Rd.at_ (hs.below hbel) (k := k) (by rw [HU.out]; omega)
        clear hr hs
        obtain ⟨⟨va, vb⟩, hv⟩ : ∃ v, vs.getD k (0, 0) = v := ⟨_, rfl⟩
        obtain ⟨⟨ua, ub⟩, hu⟩ : ∃ u, us.getD k (0, 0) = u := ⟨_, rfl⟩
        rw [hv] at hc0 hc1
        rw [hu] at hc0' hc1'
        have Hv := Lib.hid hv; clear hv
        have Hu := Lib.hid hu; clear hu
        obtain ⟨q, hq⟩ : ∃ q, decide (va = ua ∧ vb = ub) = q := ⟨_, rfl⟩
        have HQ := Lib.hid hq; clear hq
        go_wp2
        go_still_tail 8, (by kernel_rfl)
        have hbd : Below w.heap.size w wr.drew := hbel.drew
        change wpList _ _ _ _ _ wr.drew
        generalize wr.drew = w2 at *
        rcases q with _ | _
        · go_wp2_with (go_at_call 45; refine (eqVote_is false _ _ _ _ HQ.out _).mono ?_; rintro e w1 ⟨rfl, hb1⟩)
          go_ret
          refine ⟨ret_bool ?_, hbd.trans (hb1.mono hbd.size)⟩
          symm
          rw [decide_eq_false_iff_not]
          intro he
          have h1 := Hv.out
          rw [he, Hu.out] at h1
          have h2 := HQ.out
          simp_all
        · go_wp2_with (go_at_call 45; refine (eqVote_is true _ _ _ _ HQ.out _).mono ?_; rintro e w1 ⟨rfl, hb1⟩)
          go_roundw
          case rel =>
            refine ⟨k + 1, by omega, by go_num, fun j hj => ?_, hbd.trans (hb1.mono hbd.size)⟩
            by_cases e : j = k
            · have h2 := of_decide_eq_true HQ.out
              rw [e, Hv.out, Hu.out, h2.1, h2.2]
            · exact hall.out j (by omega)
          case measure => simp [intOf]; omega
      · go_wp2
        go_ret
        refine ⟨ret_bool ?_, hbel⟩
        symm
        rw [decide_eq_true_iff]
        apply List.ext_getElem (by rw [HV.out, HU.out])
        intro i h1 h2
        have := hall.out i (by have := HV.out; omega)
        simpa [List.getD, List.getElem?_eq_getElem h1, List.getElem?_eq_getElem h2] using this
  · have hne : ((vs.length : Int) != (us.length : Int)) = true := by rw [bne_iff_ne]; omega
    go_enter Try.func44, Try.ntmps44
    go_wp2
    go_ret
    refine ⟨ret_bool ?_, Below.refl _ _⟩
    symm
    rw [decide_eq_false_iff_not]
    exact fun he => hlen (by rw [he])
theorem eqVoteS_same (A C : Option Addr) (c d : Nat) (vs : List (Int × Int)) (w : World) (hr : Rd w w.heap.size A vs) (hs : Rd w w.heap.size C vs) (hn : vs.length ≤ 1048576) :
    Calls Try.prog 44 #[.slice A vs.length c, .slice C vs.length d] w fun e w' => e = .returned (.bool true) ∧ Below w.heap.size w w' := by
  have h := eqVoteS_any A C c d vs vs w hr hs hn
  rwa [decide_eq_true (rfl : vs = vs)] at h

end Go.Proofs.Ytfdfjmibjnmhpaa.V

namespace Go.Proofs.Ytfdfjmibjnmhpaa.B
open Go.RowKit
theorem block_of_add (a : Addr) (n : Nat) : (a.add n).block = a.block := by unfold Addr.add; split <;> rfl
theorem add_of_add (a : Addr) (i j : Nat) : (a.add i).add j = a.add (i + j) := by
  unfold Addr.add
  by_cases hi : i = 0 <;> by_cases hj : j = 0 <;> simp [hi, hj, Nat.add_assoc]

def Reads (w : World) (B size : Nat) (A : Option Addr) (n : Nat) (xs : List Value) : Prop :=
  xs.length = n * size ∧ (0 < n → ∃ ad, A = some ad ∧ ad.block < B ∧ ∀ j u, xs[j]? = some u → w.cell? (ad.add j) = some u)

section
variable {w w' : World} {B B' size n : Nat} {A : Option Addr} {xs : List Value}
theorem Reads.none_ : Reads w B size A 0 [] := ⟨by simp, fun h => absurd h (by omega)⟩
theorem Reads.at_ {k : Nat} (h : Reads w B 1 A n xs) (hk : k < n) : ∃ ad u, A = some ad ∧ ad.block < B ∧ xs[k]? = some u ∧ w.cell? (ad.add k) = some u := by
  obtain ⟨ad, e, hb, hc⟩ := h.2 (by omega)
  have hl : k < xs.length := by have := h.1; omega
  exact ⟨ad, xs[k], e, hb, List.getElem?_eq_getElem hl, hc k _ (List.getElem?_eq_getElem hl)⟩
theorem Reads.keep (h : Reads w B size A n xs) (hk : ∀ p : Addr, p.block < B → w'.cell? p = w.cell? p) : Reads w' B size A n xs :=
  ⟨h.1, fun hn => by
    obtain ⟨ad, e, hb, hc⟩ := h.2 hn
    exact ⟨ad, e, hb, fun j u hu => (hk _ (by rw [block_of_add]; exact hb)).trans (hc j u hu)⟩⟩
theorem Reads.more (h : Reads w B size A n xs) (hB : B ≤ B') : Reads w B' size A n xs :=
  ⟨h.1, fun hn => by
    obtain ⟨ad, e, hb, hc⟩ := h.2 hn
    exact ⟨ad, e, by omega, hc⟩⟩
theorem Reads.below (h : Reads w B size A n xs) (hb : Below B w w') : Reads w' B size A n xs := h.keep fun _ hp => hb.cell hp
theorem Reads.drew (h : Reads w B size A n xs) : Reads w.drew B size A n xs := h
theorem Reads.drewN (h : Reads w B size A n xs) (k : Nat) : Reads (w.drewN k) B size A n xs := h
theorem Reads.alloc (h : Reads w B size A n xs) (hB : B ≤ w.heap.size) (o : Obj) : Reads (w.alloc o) B size A n xs := h.keep fun p hp => World.cell?_alloc_lt w o p (by omega)
theorem Reads.setCell (h : Reads w B size A n xs) {p : Addr} (hB : B ≤ p.block) (u : Value) : Reads (w.setCell p u) B size A n xs :=
  h.keep fun q hq => World.cell?_setCell_other w p q u (fun e => by subst e; omega)
theorem Reads.grown (h : Reads w B size A n xs) {row : Option Nat} (hg : w.grownBy w' row) (hB : B ≤ w.heap.size) (hr : ∀ g, row = some g → B ≤ g) : Reads w' B size A n xs :=
  h.keep fun p hp => World.cell?_of_block (hg.block p.block (by omega) (fun e => by have := hr _ e.symm; omega))
theorem Reads.cut (h : Reads w B size A n xs) {k cap : Nat} (hk : k ≤ n) (hc : n ≤ cap) :
    Reads w B size (if cap = k then A else A.map (·.add (k * size))) (n - k) (xs.drop (k * size)) := by
  refine ⟨by rw [List.length_drop, h.1, Nat.sub_mul], fun hn => ?_⟩
  obtain ⟨ad, rfl, hb, hcell⟩ := h.2 (by omega)
  rw [if_neg (by omega)]
  refine ⟨ad.add (k * size), rfl, by rw [block_of_add]; exact hb, fun j u hu => ?_⟩
  rw [add_of_add]
  exact hcell _ u (by rw [← hu, List.getElem?_drop])
theorem Reads.of_own {base : Nat} {e : TypeId} {c : Nat} (h : w.ownsRow base e size (.slice A n c) n xs) : Reads w w.heap.size size A n xs := by
  refine ⟨h.1, fun hn => ?_⟩
  obtain ⟨g, cap, hv, _, hlt⟩ := h.form hn
  have hA : A = some ⟨g, 0, none⟩ := by injection hv
  subst hA
  exact ⟨_, rfl, hlt, h.cells (g := g) rfl⟩
end
section
variable {P : Program} (w : World)

theorem run_append_of_nil (base : Nat) (t ty e : TypeId) (i : TypeInfo) (size : Nat) (ht : P.underlying t = some (.slice e)) (hi : P.info? e = some i)
    (v : Value) (n : Nat) (xs : List Value) (hown : w.ownsRow base e size v n xs) (c : Nat) : (Builtin.append_ #[t, t] ty #[v, .slice none 0 c]).run P w = .ok v w := by
  rcases hown.2 with ⟨rfl, rfl⟩ | ⟨g, cap, cur, rfl, _, _, hnc, _⟩
  · simp [Builtin.append_, run_underlying ht, sizeOf, typeInfo, hi, Builtin.lenOf, Builtin.firstCells]
  · simp [Builtin.append_, run_underlying ht, sizeOf, typeInfo, hi, Builtin.lenOf, Builtin.firstCells, hnc, storeCells]

theorem run_append_any (base : Nat) (t ty e : TypeId) (i : TypeInfo) (z : Value) (size bytes : Nat) (ht : P.underlying t = some (.slice e)) (hi : P.info? e = some i) (hz : i.zero = some z)
    (hsize : i.size = size) (hby : i.bytes = bytes) (hzs : z.cells.size = size) (hsz : 0 < size)
    (v : Value) (n : Nat) (xs : List Value) (hown : w.ownsRow base e size v n xs)
    (B : Nat) (A : Option Addr) (m c : Nat) (news : List Value) (hr : Reads w B size A m news) (h1 : ∀ u ∈ news, u.oneCell' = true)
    (h63 : n + m ≤ maxLen) (hbytes : (n + m) * bytes ≤ 140737488355328) (hbase : base ≤ w.heap.size) :
    ∃ v' w', (Builtin.append_ #[t, t] ty #[v, .slice A m c]).run P w = .ok v' w' ∧ w'.ownsRow base e size v' (n + m) (xs ++ news) ∧ w.grownBy w' v.ownBlock ∧
      (v'.ownBlock = v.ownBlock ∨ v'.ownBlock = some w.heap.size) := by
  rcases A with _ | ad
  · have hm : m = 0 := by
      rcases Nat.eq_zero_or_pos m with h0 | h0
      · exact h0
      · obtain ⟨ad, h, _⟩ := hr.2 h0
        cases h
    subst hm
    have hn : news = [] := List.eq_nil_of_length_eq_zero (by simpa using hr.1)
    subst hn
    exact ⟨v, w, run_append_of_nil w base t ty e i size ht hi v n xs hown c, by simpa using hown, World.grownBy.refl w _, .inl rfl⟩
  · have hcells : ∀ j u, news[j]? = some u → w.cell? (ad.add j) = some u := by
      intro j u hu
      rcases Nat.eq_zero_or_pos m with h0 | h0
      · subst h0
        have hn : news = [] := List.eq_nil_of_length_eq_zero (by simpa using hr.1)
        subst hn
        simp at hu
      · obtain ⟨ad', h, _, hc⟩ := hr.2 h0
        injection h with h
        subst h
        exact hc j u hu
    obtain ⟨v', w', hrun, h2, h3, _, h5⟩ := run_append_own_at (P := P) w base t ty e i z size bytes ht hi hz hsize hby hzs hsz v n xs hown ad m c news hr.1 hcells h1 h63 hbytes hbase
    exact ⟨v', w', hrun, h2, h3, h5⟩

theorem wp_append_any {o : Oper} {a : Act} {K : Act → World → Prop} {Q : Exit → Act → World → Prop} (s x : Operand) (t : TypeId)
    (ho : o.op = .call { callee := .builtin .append, args := #[s, x], argTypes := #[t, t] })
    (base : Nat) (e : TypeId) (i : TypeInfo) (z : Value) (size bytes : Nat) (ht : P.underlying t = some (.slice e)) (hi : P.info? e = some i) (hz : i.zero = some z)
    (hsize : i.size = size) (hby : i.bytes = bytes) (hzs : z.cells.size = size) (hsz : 0 < size)
    (v : Value) (n : Nat) (xs : List Value) (hs : a.eval s = v) (hown : w.ownsRow base e size v n xs)
    (B : Nat) (A : Option Addr) (m c : Nat) (news : List Value) (hx : a.eval x = .slice A m c) (hr : Reads w B size A m news) (h1 : ∀ u ∈ news, u.oneCell' = true)
    (h63 : n + m ≤ maxLen) (hbytes : (n + m) * bytes ≤ 140737488355328) (hbase : base ≤ w.heap.size)
    (h : ∀ v' w', w'.ownsRow base e size v' (n + m) (xs ++ news) → w.grownBy w' v.ownBlock → (v'.ownBlock = v.ownBlock ∨ v'.ownBlock = some w.heap.size) → K (a.put o.dst v') w') : o.wp P a w K Q := by
  obtain ⟨v', w', hrun, h2, h3, h4⟩ := run_append_any (P := P) w base t o.type e i z size bytes ht hi hz hsize hby hzs hsz v n xs hown B A m c news hr h1 h63 hbytes hbase
  unfold Oper.wp execOp
  simp only [ho, resolve, invoke, builtin, Sem.run_bind, Sem.run_pure, Result.andThen_ok, List.map_toArray, List.map_cons, List.map_nil, hs, hx, hrun]
  exact h v' w' h2 h3 h4

theorem wpList_append_any {ops : Array Oper} {rest : List Oper} {o : Oper} {a : Act} {Q : Exit → Act → World → Prop} (hgd : o.guard = none) (s x : Operand) (t : TypeId)
    (ho : o.op = .call { callee := .builtin .append, args := #[s, x], argTypes := #[t, t] })
    (base : Nat) (e : TypeId) (i : TypeInfo) (z : Value) (size bytes : Nat) (ht : P.underlying t = some (.slice e)) (hi : P.info? e = some i) (hz : i.zero = some z)
    (hsize : i.size = size) (hby : i.bytes = bytes) (hzs : z.cells.size = size) (hsz : 0 < size)
    (v : Value) (n : Nat) (xs : List Value) (hs : a.eval s = v) (hown : w.ownsRow base e size v n xs)
    (B : Nat) (A : Option Addr) (m c : Nat) (news : List Value) (hx : a.eval x = .slice A m c) (hr : Reads w B size A m news) (h1 : ∀ u ∈ news, u.oneCell' = true)
    (h63 : n + m ≤ maxLen) (hbytes : (n + m) * bytes ≤ 140737488355328) (hbase : base ≤ w.heap.size)
    (h : ∀ v' w', w'.ownsRow base e size v' (n + m) (xs ++ news) → w.grownBy w' v.ownBlock → (v'.ownBlock = v.ownBlock ∨ v'.ownBlock = some w.heap.size) → wpList P ops Q rest (a.put o.dst v') w') : wpList P ops Q (o :: rest) a w :=
  wpList_plain hgd fun _ hK => wp_append_any w s x t ho base e i z size bytes ht hi hz hsize hby hzs hsz v n xs hs hown B A m c news hx hr h1 h63 hbytes hbase fun v' w' h2 h3 h4 => hK _ _ (h v' w' h2 h3 h4)

theorem step_append_any {ops : Array Oper} {o : Oper} {a : Act} {K : Act → World → Prop} {Q : Exit → Act → World → Prop} {E : Prop} (hgd : o.guard = none) (s x : Operand) (t : TypeId)
    (ho : o.op = .call { callee := .builtin .append, args := #[s, x], argTypes := #[t, t] })
    (base : Nat) (e : TypeId) (i : TypeInfo) (z : Value) (size bytes : Nat) (ht : P.underlying t = some (.slice e)) (hi : P.info? e = some i) (hz : i.zero = some z)
    (hsize : i.size = size) (hby : i.bytes = bytes) (hzs : z.cells.size = size) (hsz : 0 < size)
    (v : Value) (n : Nat) (xs : List Value) (hs : a.eval s = v) (hown : w.ownsRow base e size v n xs)
    (B : Nat) (A : Option Addr) (m c : Nat) (news : List Value) (hx : a.eval x = .slice A m c) (hr : Reads w B size A m news) (h1 : ∀ u ∈ news, u.oneCell' = true)
    (h63 : n + m ≤ maxLen) (hbytes : (n + m) * bytes ≤ 140737488355328) (hbase : base ≤ w.heap.size)
    (h : ∀ v' w', w'.ownsRow base e size v' (n + m) (xs ++ news) → w.grownBy w' v.ownBlock → (v'.ownBlock = v.ownBlock ∨ v'.ownBlock = some w.heap.size) → K (a.put o.dst v') w') :
    if Region.wanted o (yielded ops a.tmps) = true then Oper.wp P o a w K Q else E := by
  have hw : Region.wanted o (yielded ops a.tmps) = true := by simp [Region.wanted, hgd]
  rw [if_pos hw]
  exact wp_append_any w s x t ho base e i z size bytes ht hi hz hsize hby hzs hsz v n xs hs hown B A m c news hx hr h1 h63 hbytes hbase h
end

/-- The cells of a list of pairs. -/
def vcells (vs : List (Int × Int)) : List Value := vs.flatMap fun p => [.int .i64 p.1, .int .i64 p.2]
theorem vcells_len (vs : List (Int × Int)) : (vcells vs).length = vs.length * 2 := by
  induction vs with
  | nil => rfl
  | cons p vs ih => simp only [vcells, List.flatMap_cons, List.length_append, List.length_cons, List.length_nil] at *; omega
theorem vcells_append (vs us : List (Int × Int)) : vcells (vs ++ us) = vcells vs ++ vcells us := by simp [vcells]
theorem vcells_at (vs : List (Int × Int)) (i : Nat) (hi : i < vs.length) : (vcells vs)[i * 2]? = some (.int .i64 (vs.getD i (0, 0)).1) ∧ (vcells vs)[i * 2 + 1]? = some (.int .i64 (vs.getD i (0, 0)).2) := by
  induction vs generalizing i with
  | nil => simp at hi
  | cons p vs ih =>
    cases i with
    | zero => simp [vcells]
    | succ i =>
      have := ih i (by simpa using hi)
      have e1 : (i + 1) * 2 = i * 2 + 2 := by omega
      constructor
      · rw [e1]; simpa [vcells] using this.1
      · rw [e1]; simpa [vcells] using this.2
theorem vcells_one (vs : List (Int × Int)) : ∀ u ∈ vcells vs, u.oneCell' = true := by
  intro u hu
  simp only [vcells, List.mem_flatMap, List.mem_cons, List.not_mem_nil, or_false] at hu
  obtain ⟨p, _, h | h⟩ := hu <;> subst h <;> rfl
theorem Rd.reads {w : World} {Bd : Nat} {A : Option Addr} {vs : List (Int × Int)} (h : Rd w Bd A vs) : Reads w Bd 2 A vs.length (vcells vs) := by
  refine ⟨vcells_len vs, fun hn => ?_⟩
  obtain ⟨b, off, rfl, hb, hc⟩ := h hn
  refine ⟨_, rfl, hb, fun j u hu => ?_⟩
  have hj : j < (vcells vs).length := (List.getElem?_eq_some_iff.1 hu).1
  rw [vcells_len] at hj
  have hadd : (⟨b, off, none⟩ : Addr).add j = ⟨b, off + j, none⟩ := by unfold Addr.add; split <;> simp_all
  rw [hadd]
  rcases Nat.mod_two_eq_zero_or_one j with h2 | h2
  · have e : j = (j / 2) * 2 := by omega
    have ha := vcells_at vs (j / 2) (by omega)
    rw [← e, hu] at ha
    have hcc := (hc (j / 2) (by omega)).1
    rw [← e] at hcc
    rw [hcc]; exact ha.1.symm
  · have e : j = (j / 2) * 2 + 1 := by omega
    have ha := vcells_at vs (j / 2) (by omega)
    rw [← e, hu] at ha
    have hcc := (hc (j / 2) (by omega)).2
    rw [Nat.add_assoc, ← e] at hcc
    rw [hcc]; exact ha.2.symm
end Go.Proofs.Ytfdfjmibjnmhpaa.B

namespace Go.Proofs.Ytfdfjmibjnmhpaa.B
open Go.RowKit
theorem Blk.on {w w' : World} {g : Nat} {t : TypeId} {cs : Array Value} (h : Blk w g t cs) (hb : Below w.heap.size w w') : Blk w' g t cs := h.below hb h.lt
theorem Blk.rule {w : World} {g : Nat} {t : TypeId} {cs : Array Value} (h : Blk w g t cs) : ∀ i, w.cell? ⟨g, i, none⟩ = cs[i]? := fun i => h.cell i
theorem Blk.up {w : World} {b : Nat} {t : TypeId} {cs : Array Value} (h : Blk w b t cs) (O : Obj) : Blk (w.alloc O) b t cs := h.alloc O
theorem Blk.dr {w : World} {b : Nat} {t : TypeId} {cs : Array Value} (h : Blk w b t cs) : Blk w.drew b t cs := h
theorem on_ {w w1 w2 : World} (h : Below w.heap.size w w1) (hb : Below w1.heap.size w1 w2) : Below w.heap.size w w2 := h.trans (hb.mono h.size)
theorem up_ {w w1 : World} (h : Below w.heap.size w w1) (O : Obj) : Below w.heap.size w (w1.alloc O) := h.alloc h.size O
theorem Rd.on {w w' : World} {A : Option Addr} {vs : List (Int × Int)} (h : Rd w w.heap.size A vs) (hb : Below w.heap.size w w') : Rd w' w'.heap.size A vs := (h.below hb).more hb.size
theorem Rd.up {w : World} {A : Option Addr} {vs : List (Int × Int)} (h : Rd w w.heap.size A vs) (O : Obj) : Rd (w.alloc O) (w.alloc O).heap.size A vs := (h.alloc (Nat.le_refl _) O).more (by simp)
/-- Only block g, and what is new, may have turned. -/
theorem only_set {a w : World} {g : Nat} (h : a.grownBy w (some g)) (i : Nat) (u : Value) : a.grownBy (w.setCell ⟨g, i, none⟩ u) (some g) :=
  ⟨h.os, h.tape, h.output, by simpa [World.setCell] using h.size, fun j hj hne => (Below.heap_setCell w ⟨g, i, none⟩ u j (by
    rintro rfl
    exact hne rfl)).trans (h.block j hj hne)⟩
end Go.Proofs.Ytfdfjmibjnmhpaa.B

namespace Go.Proofs.Ytfdfjmibjnmhpaa.B
open Go.RowKit

/-- A report as data. -/
structure Rp where
  f : Int
  v : Int
  x : Int
  vs : List (Int × Int)
/-- A report, and where its votes lie. -/
structure Pp where
  r : Rp
  A : Option Addr
  c : Nat
def zR : Rp := ⟨0, 0, 0, []⟩
def zP : Pp := ⟨zR, none, 0⟩
instance : Inhabited Pp := ⟨zP⟩
def rl (ps : List Pp) : List Rp := ps.map Pp.r
theorem rl_len (ps : List Pp) : (rl ps).length = ps.length := by simp [rl]
theorem rl_at (ps : List Pp) (k : Nat) : (rl ps).getD k zR = (ps.getD k zP).r := by
  simp only [rl, List.getD_eq_getElem?_getD, List.getElem?_map]
  cases ps[k]? <;> rfl
/-- The four cells of the report that lies as p. -/
def four (at_ : Nat → Option Value) (p : Pp) : Prop :=
  at_ 0 = some (.int .i64 p.r.f) ∧ at_ 1 = some (.int .i64 p.r.v) ∧ at_ 2 = some (.int .i64 p.r.x) ∧ at_ 3 = some (.slice p.A p.r.vs.length p.c)

/-- A slice value at address A reads, below block Bd, as the reports ps. -/
def RdR (w : World) (Bd : Nat) (A : Option Addr) (ps : List Pp) : Prop :=
  0 < ps.length → ∃ b off, A = some ⟨b, off, none⟩ ∧ b < Bd ∧ ∀ i, i < ps.length → four (fun j => w.cell? ⟨b, off + i * 4 + j, none⟩) (ps.getD i zP) ∧ Rd w Bd (ps.getD i zP).A (ps.getD i zP).r.vs
section
variable {w w' : World} {Bd Bd' : Nat} {A : Option Addr} {ps : List Pp}
theorem RdR.keep (h : RdR w Bd A ps) (hk : ∀ b o, b < Bd → w'.cell? ⟨b, o, none⟩ = w.cell? ⟨b, o, none⟩) : RdR w' Bd A ps := fun hn => by
  obtain ⟨b, off, e, hb, hc⟩ := h hn
  refine ⟨b, off, e, hb, fun i hi => ⟨?_, (hc i hi).2.keep hk⟩⟩
  have h4 := (hc i hi).1
  unfold four at *
  simp only [hk b _ hb]
  exact h4
theorem RdR.more (h : RdR w Bd A ps) (hB : Bd ≤ Bd') : RdR w Bd' A ps := fun hn => by
  obtain ⟨b, off, e, hb, hc⟩ := h hn
  exact ⟨b, off, e, by omega, fun i hi => ⟨(hc i hi).1, (hc i hi).2.more hB⟩⟩
theorem RdR.below (h : RdR w Bd A ps) (hb : Below Bd w w') : RdR w' Bd A ps := h.keep fun _ _ hp => hb.cell hp
theorem RdR.alloc (h : RdR w Bd A ps) (hB : Bd ≤ w.heap.size) (o : Obj) : RdR (w.alloc o) Bd A ps := h.keep fun b o' hp => World.cell?_alloc_lt w o ⟨b, o', none⟩ (by simpa using (show b < w.heap.size by omega))
theorem RdR.on (h : RdR w w.heap.size A ps) (hb : Below w.heap.size w w') : RdR w' w'.heap.size A ps := (h.below hb).more hb.size
theorem RdR.up (h : RdR w w.heap.size A ps) (O : Obj) : RdR (w.alloc O) (w.alloc O).heap.size A ps := (h.alloc (Nat.le_refl _) O).more (by simp)
theorem RdR.dr (h : RdR w w.heap.size A ps) : RdR w.drew w.drew.heap.size A ps := h
theorem RdR.nil_ : RdR w Bd A [] := fun h => absurd h (by simp)
theorem RdR.at_ (h : RdR w Bd A ps) {k : Nat} (hk : k < ps.length) : ∃ b off, A = some ⟨b, off, none⟩ ∧ b < Bd ∧ w.cell? ⟨b, off + k * 4, none⟩ = some (.int .i64 (ps.getD k zP).r.f) ∧ w.cell? ⟨b, off + k * 4 + 1, none⟩ = some (.int .i64 (ps.getD k zP).r.v) ∧ w.cell? ⟨b, off + k * 4 + 2, none⟩ = some (.int .i64 (ps.getD k zP).r.x) ∧ w.cell? ⟨b, off + k * 4 + 3, none⟩ = some (.slice (ps.getD k zP).A (ps.getD k zP).r.vs.length (ps.getD k zP).c) ∧ Rd w Bd (ps.getD k zP).A (ps.getD k zP).r.vs := by
  obtain ⟨b, off, rfl, hb, hc⟩ := h (by omega)
  obtain ⟨⟨h0, h1, h2, h3⟩, h4⟩ := hc k hk
  exact ⟨b, off, rfl, hb, h0, h1, h2, h3, h4⟩
end

/-- The first k reports of ps stand in the cells cs, which has room for n. -/
def PCR (cs : Array Value) (ps : List Pp) (n k : Nat) : Prop := cs.size = n * 4 ∧ ∀ i, i < k → four (fun j => cs[i * 4 + j]?) (ps.getD i zP)
theorem PCR.zero {cs : Array Value} {ps : List Pp} {n : Nat} (h : cs.size = n * 4) : PCR cs ps n 0 := ⟨h, fun i hi => absurd hi (by omega)⟩
theorem getD_app_lt {α : Type} {l m : List α} {z : α} {i : Nat} (h : i < l.length) : (l ++ m).getD i z = l.getD i z := by
  simp [List.getD_eq_getElem?_getD, List.getElem?_append_left h]
theorem getD_app_end {α : Type} {l : List α} {u z : α} {k : Nat} (h : l.length = k) : (l ++ [u]).getD k z = u := by
  subst h; simp [List.getD_eq_getElem?_getD]
theorem fourSet {cs : Array Value} {k : Nat} {a b c d : Value} (hs : k * 4 + 3 < cs.size) (i j : Nat) (hj : j < 4) :
    ((((cs.setIfInBounds (k * 4) a).setIfInBounds (k * 4 + 1) b).setIfInBounds (k * 4 + 2) c).setIfInBounds (k * 4 + 3) d)[i * 4 + j]? = if i = k then (if j = 0 then some a else if j = 1 then some b else if j = 2 then some c else some d) else cs[i * 4 + j]? := by
  by_cases e : i = k
  · subst e
    rw [if_pos rfl]
    rcases (by omega : j = 0 ∨ j = 1 ∨ j = 2 ∨ j = 3) with rfl | rfl | rfl | rfl
    · rw [Array.getElem?_setIfInBounds_ne (by omega), Array.getElem?_setIfInBounds_ne (by omega), Array.getElem?_setIfInBounds_ne (by omega)]
      simp only [Nat.add_zero]
      rw [Array.getElem?_setIfInBounds_self_of_lt (by omega)]; rfl
    · rw [Array.getElem?_setIfInBounds_ne (by omega), Array.getElem?_setIfInBounds_ne (by omega), Array.getElem?_setIfInBounds_self_of_lt (by simp; omega)]; rfl
    · rw [Array.getElem?_setIfInBounds_ne (by omega), Array.getElem?_setIfInBounds_self_of_lt (by simp; omega)]; rfl
    · rw [Array.getElem?_setIfInBounds_self_of_lt (by simp; omega)]; rfl
  · rw [if_neg e, Array.getElem?_setIfInBounds_ne (by omega), Array.getElem?_setIfInBounds_ne (by omega), Array.getElem?_setIfInBounds_ne (by omega), Array.getElem?_setIfInBounds_ne (by omega)]
theorem PCR.step {cs : Array Value} {qs : List Pp} {n k : Nat} (h : PCR cs qs n k) (hk : k < n) (hq : qs.length = k) (u : Pp) :
    PCR ((((cs.setIfInBounds (k * 4) (.int .i64 u.r.f)).setIfInBounds (k * 4 + 1) (.int .i64 u.r.v)).setIfInBounds (k * 4 + 2) (.int .i64 u.r.x)).setIfInBounds (k * 4 + 3) (.slice u.A u.r.vs.length u.c)) (qs ++ [u]) n (k + 1) := by
  refine ⟨by simpa using h.1, fun i hi => ?_⟩
  have hs := h.1
  have hz : k * 4 + 3 < cs.size := by omega
  by_cases e : i = k
  · subst e
    rw [getD_app_end hq]
    exact ⟨(fourSet hz i 0 (by omega)).trans (by simp), (fourSet hz i 1 (by omega)).trans (by simp), (fourSet hz i 2 (by omega)).trans (by simp), (fourSet hz i 3 (by omega)).trans (by simp)⟩
  · rw [getD_app_lt (by omega)]
    obtain ⟨h0, h1, h2, h3⟩ := h.2 i (by omega)
    exact ⟨(fourSet hz i 0 (by omega)).trans (by rw [if_neg e]; exact h0), (fourSet hz i 1 (by omega)).trans (by rw [if_neg e]; exact h1), (fourSet hz i 2 (by omega)).trans (by rw [if_neg e]; exact h2), (fourSet hz i 3 (by omega)).trans (by rw [if_neg e]; exact h3)⟩

/-- The votes of the reports qs, in blocks of their own from lo on, one behind the other. -/
def Vb (w : World) (t : TypeId) (lo : Nat) (qs : List Pp) : Prop :=
  ∃ gs : Nat → Nat, (∀ i, i < qs.length → lo ≤ gs i ∧ (qs.getD i zP).A = some ⟨gs i, 0, none⟩ ∧ (qs.getD i zP).c = (qs.getD i zP).r.vs.length ∧ ∃ cs, Blk w (gs i) t cs ∧ PC cs (qs.getD i zP).r.vs (qs.getD i zP).r.vs.length) ∧ (∀ i j, i < j → j < qs.length → gs i < gs j)
theorem Vb.nil_ {w : World} {t : TypeId} {lo : Nat} : Vb w t lo [] := ⟨fun _ => 0, fun i hi => absurd hi (by simp), fun i j _ hj => absurd hj (by simp)⟩
theorem Vb.keep {w w' : World} {t : TypeId} {lo : Nat} {qs : List Pp} (h : Vb w t lo qs) (hk : ∀ g, lo ≤ g → g < w.heap.size → w'.heap[g]? = w.heap[g]?) : Vb w' t lo qs := by
  obtain ⟨gs, h1, h2⟩ := h
  refine ⟨gs, fun i hi => ?_, h2⟩
  obtain ⟨a1, a2, a3, cs, a4, a5⟩ := h1 i hi
  exact ⟨a1, a2, a3, cs, (hk _ a1 a4.lt).trans a4, a5⟩
theorem Vb.on {w w' : World} {t : TypeId} {lo : Nat} {qs : List Pp} (h : Vb w t lo qs) (hb : Below w.heap.size w w') : Vb w' t lo qs := h.keep fun g _ hg => hb.block g hg
theorem Vb.set_ {w : World} {t : TypeId} {lo : Nat} {qs : List Pp} (h : Vb w t lo qs) {p : Addr} (hp : p.block < lo) (u : Value) : Vb (w.setCell p u) t lo qs := h.keep fun g hg _ => Below.heap_setCell w p u g (by omega)
theorem Vb.step {w : World} {t : TypeId} {lo : Nat} {qs : List Pp} {Bd g : Nat} {r : Rp} {cs : Array Value} (h : Vb w t lo qs) (hB : lo ≤ g) (hlt : ∀ i, i < qs.length → ∀ b, (qs.getD i zP).A = some ⟨b, 0, none⟩ → b < g) (hb : Blk w g t cs) (hc : PC cs r.vs r.vs.length) :
    Vb w t lo (qs ++ [⟨r, some ⟨g, 0, none⟩, r.vs.length⟩]) := by
  obtain ⟨gs, h1, h2⟩ := h
  refine ⟨fun i => if i < qs.length then gs i else g, fun i hi => ?_, fun i j hij hj => ?_⟩
  · simp only [List.length_append, List.length_cons, List.length_nil] at hi
    by_cases hl : i < qs.length
    · simp only [if_pos hl]
      rw [getD_app_lt hl]
      exact h1 i hl
    · simp only [if_neg hl]
      have e : (qs ++ [(⟨r, some ⟨g, 0, none⟩, r.vs.length⟩ : Pp)]).getD i zP = ⟨r, some ⟨g, 0, none⟩, r.vs.length⟩ := getD_app_end (by omega)
      rw [e]
      exact ⟨hB, rfl, rfl, cs, hb, hc⟩
  · simp only [List.length_append, List.length_cons, List.length_nil] at hj
    show (if i < qs.length then gs i else g) < (if j < qs.length then gs j else g)
    rw [if_pos (show i < qs.length by omega)]
    by_cases hl : j < qs.length
    · rw [if_pos hl]; exact h2 i j hij hl
    · rw [if_neg hl]
      exact hlt i (by omega) _ (h1 i (by omega)).2.1
theorem Vb.rd {w : World} {t : TypeId} {lo : Nat} {qs : List Pp} (h : Vb w t lo qs) {i : Nat} (hi : i < qs.length) : Rd w w.heap.size (qs.getD i zP).A (qs.getD i zP).r.vs := by
  obtain ⟨gs, h1, h2⟩ := h
  obtain ⟨a1, a2, a3, cs, a4, a5⟩ := h1 i hi
  rw [a2]
  exact a5.rd a4 a4.lt
theorem Vb.lt {w : World} {t : TypeId} {lo : Nat} {qs : List Pp} (h : Vb w t lo qs) {i : Nat} (hi : i < qs.length) (b : Nat) (e : (qs.getD i zP).A = some ⟨b, 0, none⟩) : b < w.heap.size := by
  obtain ⟨gs, h1, h2⟩ := h
  obtain ⟨a1, a2, a3, cs, a4, a5⟩ := h1 i hi
  rw [a2] at e
  injection e with e
  injection e with e
  subst e
  exact a4.lt
theorem take_getD {α : Type} (l : List α) (z : α) (k : Nat) (h : k < l.length) : l.take (k + 1) = l.take k ++ [l.getD k z] := by
  rw [List.take_succ_eq_append_getElem h]
  simp [List.getD_eq_getElem?_getD, List.getElem?_eq_getElem h]
theorem PCR.rd {w : World} {t tv : TypeId} {g lo n : Nat} {cs : Array Value} {qs : List Pp} (h : PCR cs qs n n) (hq : qs.length = n) (hb : Blk w g t cs) (hv : Vb w tv lo qs) : RdR w w.heap.size (some ⟨g, 0, none⟩) qs :=
  fun _ => ⟨g, 0, rfl, hb.lt, fun i hi => ⟨by
    have := h.2 i (by omega)
    simp only [Nat.zero_add, hb.cell]
    exact this, hv.rd hi⟩⟩
end Go.Proofs.Ytfdfjmibjnmhpaa.B
