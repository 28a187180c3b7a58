/-
  What the helpers markVoteS, heldVoteS, markMsg and heldMsg do: contracts. Rows of bytes and blocks kept behind a mark that is laid on another block. What insertVote answers: its contract. Rows of votes of the call's own, and the marks laid on them. A region that draws its order, walked by what holds between any two of its operations: each operation is walked once, whatever the order. A region that draws its order, whose operations change no memory that was there (a store into a block of the region's own apart): each operation is walked once. A region that draws its order, whose operations only add memory but for the last, which waits for all the others: each operation is walked once. No statement is proved here.
-/
import Derived.Test.YtfdfjmibjnmhpaaK06
import Derived.Test.YtfdfjmibjnmhpaaK11
import Derived.Test.YtfdfjmibjnmhpaaK01
import Derived.IntWalk
import Derived.Orders
import Derived.RegionTactic
set_option linter.unusedVariables false
set_option maxRecDepth 100000
namespace Go.Proofs.Ytfdfjmibjnmhpaa.V
open Go.RowKit Go.Proofs.Ytfdfjmibjnmhpaa.B

/-- The cells cs bear the marks k, k+1, .. in the 2n first places. -/
def MK (cs : Array Value) (k : Int) (n : Nat) : Prop :=
  ∀ i, i < n → cs[i * 2]? = some (.int .i64 (k + 2 * i)) ∧ cs[i * 2 + 1]? = some (.int .i64 (k + 2 * i + 1))

theorem MK.step {cs : Array Value} {k : Int} {j : Nat} (h : MK cs k j) (hs : j * 2 + 1 < cs.size) :
    MK ((cs.setIfInBounds (j * 2) (.int .i64 (k + 2 * j))).setIfInBounds (j * 2 + 1) (.int .i64 (k + 2 * j + 1))) k (j + 1) := by
  intro i hi
  by_cases e : i = j
  · subst e
    constructor
    · rw [Array.getElem?_setIfInBounds_ne (by omega), Array.getElem?_setIfInBounds_self_of_lt (by omega)]
    · rw [Array.getElem?_setIfInBounds_self_of_lt (by simp; omega)]
  · have := h i (by omega)
    constructor
    · rw [Array.getElem?_setIfInBounds_ne (by omega), Array.getElem?_setIfInBounds_ne (by omega)]; exact this.1
    · rw [Array.getElem?_setIfInBounds_ne (by omega), Array.getElem?_setIfInBounds_ne (by omega)]; exact this.2

/-- Only block g, and what is new, may have turned. -/
theorem only_set {a w : World} {g : Nat} (h : a.grownBy w (some g)) (i : Nat) (u : Value) : a.grownBy (w.setCell ⟨g, i, none⟩ u) (some g) :=
  ⟨h.os, h.tape, h.output, by simpa [World.setCell] using h.size, fun j hj hne => (Below.heap_setCell w ⟨g, i, none⟩ u j (by
    rintro rfl
    exact hne rfl)).trans (h.block j hj hne)⟩

theorem markNil (A : Option Addr) (c : Nat) (k : Int) (w : World) :
    Calls Try.prog 51 #[.slice A 0 c, .int .i64 k] w fun e w' => e = .returned (.int .i64 k) ∧ w = w' := by
  go_enter Try.func51, Try.ntmps51
  go_wp2
  refine wp_loop_rounds 1 ?_
  rw [rounds_succ]
  go_wp2
  go_ret
  exact ⟨rfl, rfl⟩

theorem heldNil (A : Option Addr) (c : Nat) (k : Int) (w : World) :
    Calls Try.prog 54 #[.slice A 0 c, .int .i64 k] w fun e w' => e = .returned (.int .i64 k) ∧ w = w' := by
  go_enter Try.func54, Try.ntmps54
  go_wp2
  refine wp_loop_rounds 1 ?_
  rw [rounds_succ]
  go_wp2
  go_ret
  exact ⟨rfl, rfl⟩

set_option maxHeartbeats 400000 in
theorem mark_any (g n c : Nat) (t : TypeId) (cs : Array Value) (k : Int) (w : World) (hb : Blk w g t cs) (hs : n * 2 ≤ cs.size) (hn : n ≤ 1048576) (h0 : 0 ≤ k) (h1 : k ≤ 16777216) :
    Calls Try.prog 51 #[.slice (some ⟨g, 0, none⟩) n c, .int .i64 k] w fun e w' =>
      e = .returned (.int .i64 (k + 2 * n)) ∧ ∃ cs', Blk w' g t cs' ∧ cs'.size = cs.size ∧ MK cs' k n ∧ w.grownBy w' (some g) := by
  have HS := Lib.hid hs; clear hs
  go_enter Try.func51, Try.ntmps51
  go_wp2
  go_loopw [1, 5] (fun kk i wr => ∃ (j : Nat) (ds : Array Value), j ≤ n ∧ i = .int .i64 j ∧ kk = .int .i64 (k + 2 * j) ∧ Blk wr g t ds ∧ Hid (ds.size = cs.size) ∧ Hid (MK ds k j) ∧ w.grownBy wr (some g)) (fun _ i _ => n - (intOf i).toNat)
  case atStart => exact ⟨0, cs, Nat.zero_le _, rfl, by simp, hb, rfl, fun i hi => absurd hi (by omega), World.grownBy.refl w _⟩
  case round =>
    obtain ⟨j, ds, hj, rfl, rfl, hblk, hsz, hmk, hgr⟩ := hrel
    by_cases hlt : j < n
    · have hx0 : ∃ y, ds[j * 2]? = some y := ⟨_, Array.getElem?_eq_getElem (by have := hsz.out; have := HS.out; omega)⟩
      have hx1 : ∃ y, ds[j * 2 + 1]? = some y := ⟨_, Array.getElem?_eq_getElem (by have := hsz.out; have := HS.out; omega)⟩
      obtain ⟨y0, hx0⟩ := hx0
      obtain ⟨y1, hx1⟩ := hx1
      have hc0 := (hblk.cell (j * 2)).trans hx0
      have hc1 := (hblk.cell (j * 2 + 1)).trans hx1
      have hf0 := hblk.frozen (j * 2)
      have hf1 := hblk.frozen (j * 2 + 1)
      have HM : Hid (MK ((ds.setIfInBounds (j * 2) (.int .i64 (k + 2 * j))).setIfInBounds (j * 2 + 1) (.int .i64 (k + 2 * j + 1))) k (j + 1)) := MK.step hmk.out (by have := hsz.out; have := HS.out; omega)
      have HZ : Hid (((ds.setIfInBounds (j * 2) (.int .i64 (k + 2 * j))).setIfInBounds (j * 2 + 1) (.int .i64 (k + 2 * j + 1))).size = cs.size) := by rw [Array.size_setIfInBounds, Array.size_setIfInBounds]; exact hsz.out
      clear hx0 hx1 hmk hsz
      go_wp2
      go_roundw
      case rel => exact ⟨j + 1, _, by omega, by go_num, by congr 1; simp; omega, (hblk.set_ _ _).set_ _ _, HZ, HM, only_set (only_set hgr _ _) _ _⟩
      case measure => simp [intOf]; omega
    · have hjn : j = n := by omega
      subst hjn
      go_wp2
      go_ret
      exact ⟨rfl, ds, hblk, hsz.out, hmk.out, hgr⟩
set_option maxHeartbeats 400000 in
theorem held_any (g n c : Nat) (t : TypeId) (cs : Array Value) (k : Int) (w : World) (hb : Blk w g t cs) (hm : MK cs k n) (hn : n ≤ 1048576) (h0 : 0 ≤ k) (h1 : k ≤ 16777216) :
    Calls Try.prog 54 #[.slice (some ⟨g, 0, none⟩) n c, .int .i64 k] w fun e w' => e = .returned (.int .i64 (k + 2 * n)) ∧ w = w' := by
  have HM := Lib.hid hm; clear hm
  go_enter Try.func54, Try.ntmps54
  go_wp2
  go_loop [1, 5] (fun kk i => ∃ (j : Nat), j ≤ n ∧ i = .int .i64 j ∧ kk = .int .i64 (k + 2 * j)) (fun _ i => n - (intOf i).toNat)
  case atStart => exact ⟨0, Nat.zero_le _, rfl, by simp⟩
  case round =>
    obtain ⟨j, hj, rfl, rfl⟩ := hrel
    by_cases hlt : j < n
    · have hc0 := (hb.cell (j * 2)).trans (HM.out j hlt).1
      have hc1 := (hb.cell (j * 2 + 1)).trans (HM.out j hlt).2
      have hne : ∀ i : Int, (i != i) = false := fun i => by simp
      go_wp2
      go_round
      case rel => exact ⟨j + 1, by omega, by go_num, by congr 1; simp; omega⟩
      case measure => simp [intOf]; omega
    · have hjn : j = n := by omega
      subst hjn
      go_wp2
      go_ret
      exact ⟨rfl, rfl⟩
theorem grown_alloc {w w' : World} {o : Obj} {row : Option Nat} (h : (w.alloc o).grownBy w' row) : w.grownBy w' row :=
  ⟨h.os, h.tape, h.output, Nat.le_trans (by simp) h.size, fun i hi hne => (h.block i (by simp; omega) hne).trans (Below.heap_alloc w o i hi)⟩

theorem markMsg_nil (k v x a b m : Int) (A : Option Addr) (c : Nat) (w : World) (h0 : 0 ≤ m) (h1 : m ≤ 16777216) :
    Calls Try.prog 17 #[.agg #[.int .i64 k, .int .i64 v, .int .i64 x, .int .i64 a, .int .i64 b, .slice A 0 c], .int .i64 m] w fun e w' => e = .returned (.int .i64 m) ∧ Below w.heap.size w w' := by
  go_enter Try.func17, Try.ntmps17
  go_wp2_with (go_at_call 51; refine (markNil A c m _).mono ?_; rintro e w1 ⟨rfl, rfl⟩)
  go_ret
  exact ⟨rfl, (Below.refl _ _).alloc (Nat.le_refl _) _⟩
theorem heldMsg_nil (k v x a b m : Int) (A : Option Addr) (c : Nat) (w : World) (h0 : 0 ≤ m) (h1 : m ≤ 16777216) :
    Calls Try.prog 18 #[.agg #[.int .i64 k, .int .i64 v, .int .i64 x, .int .i64 a, .int .i64 b, .slice A 0 c], .int .i64 m] w fun e w' => e = .returned (.int .i64 m) ∧ Below w.heap.size w w' := by
  go_enter Try.func18, Try.ntmps18
  go_wp2_with (go_at_call 54; refine (heldNil A c m _).mono ?_; rintro e w1 ⟨rfl, rfl⟩)
  go_ret
  exact ⟨rfl, (Below.refl _ _).alloc (Nat.le_refl _) _⟩

theorem markMsg_any (k v x a b m : Int) (g n c : Nat) (t : TypeId) (cs : Array Value) (w : World) (hb : Blk w g t cs) (hs : n * 2 ≤ cs.size) (hn : n ≤ 1048576) (h0 : 0 ≤ m) (h1 : m ≤ 16777216) :
    Calls Try.prog 17 #[.agg #[.int .i64 k, .int .i64 v, .int .i64 x, .int .i64 a, .int .i64 b, .slice (some ⟨g, 0, none⟩) n c], .int .i64 m] w fun e w' =>
      e = .returned (.int .i64 (m + 2 * n)) ∧ ∃ cs', Blk w' g t cs' ∧ cs'.size = cs.size ∧ MK cs' m n ∧ w.grownBy w' (some g) := by
  have hm0 := fun O => mark_any g n c t cs m (w.alloc O) (hb.alloc O) hs hn h0 h1
  have HM := Lib.hid hm0; clear hm0 hs
  go_enter Try.func17, Try.ntmps17
  go_wp2_with (go_at_call 51; refine (HM.out _).mono ?_; rintro e w1 ⟨rfl, ds, hd, hsz, hmk, hgr⟩; have HZ := Lib.hid hsz; clear hsz; have HK := Lib.hid hmk; clear hmk)
  go_ret
  exact ⟨rfl, ds, hd, HZ.out, HK.out, grown_alloc hgr⟩
theorem heldMsg_any (k v x a b m : Int) (g n c : Nat) (t : TypeId) (cs : Array Value) (w : World) (hb : Blk w g t cs) (hs : MK cs m n) (hn : n ≤ 1048576) (h0 : 0 ≤ m) (h1 : m ≤ 16777216) :
    Calls Try.prog 18 #[.agg #[.int .i64 k, .int .i64 v, .int .i64 x, .int .i64 a, .int .i64 b, .slice (some ⟨g, 0, none⟩) n c], .int .i64 m] w fun e w' => e = .returned (.int .i64 (m + 2 * n)) ∧ Below w.heap.size w w' := by
  have hm0 := fun O => held_any g n c t cs m (w.alloc O) (hb.alloc O) hs hn h0 h1
  have HM := Lib.hid hm0; clear hm0 hs
  go_enter Try.func18, Try.ntmps18
  go_wp2_with (go_at_call 54; refine (HM.out _).mono ?_; rintro e w1 ⟨rfl, rfl⟩)
  go_ret
  exact ⟨rfl, (Below.refl _ _).alloc (Nat.le_refl _) _⟩
end Go.Proofs.Ytfdfjmibjnmhpaa.V

namespace Go.Proofs.Ytfdfjmibjnmhpaa.B
open Go.RowKit

theorem OB.up {w : World} {t base : Nat} {A : Option Addr} {xs : List Int} (h : OB w t base A xs) (O : Obj) : OB (w.alloc O) t base A xs := h.on ((Below.refl _ _).alloc (Nat.le_refl _) O)
theorem OB.lt {w : World} {t base : Nat} {A : Option Addr} {xs : List Int} (h : OB w t base A xs) : ∀ g, A = some ⟨g, 0, none⟩ → g < w.heap.size := by
  intro g hA
  rcases h with ⟨rfl, _⟩ | ⟨g', cur, rfl, _, hk, _⟩
  · cases hA
  · injection hA with hA
    injection hA with hA
    subst hA
    exact hk.lt
theorem OB.ge {w : World} {t base : Nat} {A : Option Addr} {xs : List Int} (h : OB w t base A xs) : ∀ g, A = some ⟨g, 0, none⟩ → base ≤ g := by
  intro g hA
  rcases h with ⟨rfl, _⟩ | ⟨g', cur, rfl, hb, hk, _⟩
  · cases hA
  · injection hA with hA
    injection hA with hA
    subst hA
    exact hb
theorem OB.far {w w' : World} {t base g : Nat} {A : Option Addr} {xs : List Int} (h : OB w t base A xs) (hgr : w.grownBy w' (some g)) (hne : ∀ g', A = some ⟨g', 0, none⟩ → g' ≠ g) : OB w' t base A xs := by
  rcases h with ⟨rfl, rfl⟩ | ⟨g', cur, rfl, hb, hk, hp⟩
  · exact OB.nil_
  · refine .inr ⟨g', cur, rfl, hb, ?_, hp⟩
    exact (hgr.block g' hk.lt (by have := hne g' rfl; simpa using this)).trans hk
theorem OB.low {w w' : World} {t base Bd : Nat} {A : Option Addr} {xs : List Int} (h : OB w t base A xs) (hb : Below Bd w w') (hl : ∀ g', A = some ⟨g', 0, none⟩ → g' < Bd) : OB w' t base A xs := by
  rcases h with ⟨rfl, rfl⟩ | ⟨g', cur, rfl, hb', hk, hp⟩
  · exact OB.nil_
  · exact .inr ⟨g', cur, rfl, hb', (hb.block g' (hl g' rfl)).trans hk, hp⟩
theorem Blk.farm {w w' : World} {g g' : Nat} {t : TypeId} {cs : Array Value} (h : Blk w g' t cs) (hgr : w.grownBy w' (some g)) (hne : g' ≠ g) : Blk w' g' t cs := (hgr.block g' h.lt (by simpa using hne)).trans h
theorem below_grown {w w' : World} {g base : Nat} (h : w.grownBy w' (some g)) (hg : base ≤ g) (hw : base ≤ w.heap.size) : Below base w w' :=
  ⟨h.os, h.tape, h.output, h.size, fun i hi => h.block i (by omega) (by simp; omega)⟩
end Go.Proofs.Ytfdfjmibjnmhpaa.B

namespace Go.Proofs.Ytfdfjmibjnmhpaa.V
open Go.RowKit Go.Proofs.Ytfdfjmibjnmhpaa.B

def VRes (us : List (Int × Int)) (w : World) (e : Ending) (w' : World) : Prop :=
  ∃ g c, e = .returned (.slice (some ⟨g, 0, none⟩) us.length c) ∧ w'.ownsRow w.heap.size 34 2 (.slice (some ⟨g, 0, none⟩) us.length c) us.length (vcells us) ∧ Below w.heap.size w w'

theorem infoV2 : (Try.prog.info? 34).map (fun i => (i.zero, i.size, i.bytes)) = some (some (.agg #[.int .i64 0, .int .i64 0]), 2, 16) := by kernel_rfl

/-- What stands behind the loop: the place k is found. -/
def At (vs : List (Int × Int)) (a : Int) (k : Nat) : Prop := k ≤ vs.length ∧ (∀ j, j < k → (vs.getD j (0, 0)).1 < a) ∧ (k < vs.length → ¬ (vs.getD k (0, 0)).1 < a)

theorem Rd.take_ {w : World} {Bd : Nat} {A : Option Addr} {vs : List (Int × Int)} (h : Rd w Bd A vs) (k : Nat) (hk : k ≤ vs.length) : Rd w Bd A (vs.take k) := fun hn => by
  rw [List.length_take] at hn
  obtain ⟨b, off, rfl, hb, hc⟩ := h (by omega)
  refine ⟨b, off, rfl, hb, fun i hi => ?_⟩
  rw [List.length_take] at hi
  have e : (vs.take k).getD i (0, 0) = vs.getD i (0, 0) := by
    simp only [List.getD]
    rw [List.getElem?_take_of_lt (by omega)]
  rw [e]
  exact hc i (by omega)
theorem Rd.drop_ {w : World} {Bd b off : Nat} {vs : List (Int × Int)} (h : Rd w Bd (some ⟨b, off, none⟩) vs) (k : Nat) : Rd w Bd (some ⟨b, off + k * 2, none⟩) (vs.drop k) := fun hn => by
  rw [List.length_drop] at hn
  obtain ⟨b', off', e, hb, hc⟩ := h (by omega)
  injection e with e
  injection e with e1 e2
  subst e1 e2
  refine ⟨b, off + k * 2, rfl, hb, fun i hi => ?_⟩
  rw [List.length_drop] at hi
  have e : (vs.drop k).getD i (0, 0) = vs.getD (k + i) (0, 0) := by
    simp only [List.getD]
    rw [List.getElem?_drop]
  have := hc (k + i) (by omega)
  rw [e, show off + k * 2 + i * 2 = off + (k + i) * 2 by omega]
  exact this
/-- What the three appends come to. -/
theorem vres_of {w w' : World} {ov : Value} {nn : Nat} {ys : List Value} {us : List (Int × Int)} (hown : w'.ownsRow w.heap.size 34 2 ov nn ys) (hn : nn = us.length) (hy : ys = vcells us) (hp : 0 < nn) (hB : Below w.heap.size w w') : VRes us w (.returned ov) w' := by
  subst hy hn
  obtain ⟨g, cap, rfl, _, _⟩ := hown.form hp
  exact ⟨g, cap, rfl, hown, hB⟩

end Go.Proofs.Ytfdfjmibjnmhpaa.V

namespace Go.Proofs.Ytfdfjmibjnmhpaa.B
open Go.RowKit

def OV (w : World) (t base : Nat) (A : Option Addr) (us : List (Int × Int)) : Prop := (A = none ∧ us = []) ∨ ∃ g cur, A = some ⟨g, 0, none⟩ ∧ base ≤ g ∧ Blk w g t cur ∧ us.length * 2 ≤ cur.size ∧
  ∀ i, i < us.length → cur[i * 2]? = some (.int .i64 (us.getD i (0, 0)).1) ∧ cur[i * 2 + 1]? = some (.int .i64 (us.getD i (0, 0)).2)
theorem OV.nil_ {w : World} {t base : Nat} : OV w t base none [] := .inl ⟨rfl, rfl⟩
theorem OV.of_own {w : World} {base t c : Nat} {A : Option Addr} {us : List (Int × Int)} (h : w.ownsRow base t 2 (.slice A us.length c) us.length (vcells us)) : OV w t base A us := by
  obtain ⟨hl, h⟩ := h
  rcases h with ⟨h1, h2⟩ | ⟨g, cap, cur, h1, h2, h3, h4, h5, h6, h7⟩
  · injection h1 with h1
    exact .inl ⟨h1, List.eq_nil_of_length_eq_zero h2⟩
  · injection h1 with h1
    refine .inr ⟨g, cur, h1, h2, h3, by omega, fun i hi => ?_⟩
    have hv := vcells_at us i hi
    rw [← h7] at hv
    rw [List.getElem?_take_of_lt (by omega), List.getElem?_take_of_lt (by omega)] at hv
    simpa using hv
theorem OV.rd {w : World} {t base : Nat} {A : Option Addr} {us : List (Int × Int)} (h : OV w t base A us) : Rd w w.heap.size A us := by
  rcases h with ⟨rfl, rfl⟩ | ⟨g, cur, rfl, _, hb, _, hp⟩
  · exact Rd.nil_
  · exact fun _ => ⟨g, 0, rfl, hb.lt, fun i hi => by
      constructor
      · rw [Nat.zero_add, hb.cell]; exact (hp i hi).1
      · rw [Nat.zero_add, hb.cell]; exact (hp i hi).2⟩
theorem OV.on {w w' : World} {t base : Nat} {A : Option Addr} {us : List (Int × Int)} (h : OV w t base A us) (hb : Below w.heap.size w w') : OV w' t base A us := by
  rcases h with ⟨rfl, rfl⟩ | ⟨g, cur, rfl, hg, hk, hp⟩
  · exact OV.nil_
  · exact .inr ⟨g, cur, rfl, hg, hk.on hb, hp⟩
theorem OV.up {w : World} {t base : Nat} {A : Option Addr} {us : List (Int × Int)} (h : OV w t base A us) (O : Obj) : OV (w.alloc O) t base A us := h.on ((Below.refl _ _).alloc (Nat.le_refl _) O)
theorem OV.more {w : World} {t b b' : Nat} {A : Option Addr} {us : List (Int × Int)} (h : OV w t b A us) (hb : b' ≤ b) : OV w t b' A us := by
  rcases h with h | ⟨g, cur, h1, h2, h3⟩
  · exact .inl h
  · exact .inr ⟨g, cur, h1, by omega, h3⟩
theorem OV.lt {w : World} {t base : Nat} {A : Option Addr} {us : List (Int × Int)} (h : OV w t base A us) : ∀ g, A = some ⟨g, 0, none⟩ → g < w.heap.size := by
  intro g hA
  rcases h with ⟨rfl, _⟩ | ⟨g', cur, rfl, _, hk, _⟩
  · cases hA
  · injection hA with hA
    injection hA with hA
    subst hA
    exact hk.lt
theorem OV.ge {w : World} {t base : Nat} {A : Option Addr} {us : List (Int × Int)} (h : OV w t base A us) : ∀ g, A = some ⟨g, 0, none⟩ → base ≤ g := by
  intro g hA
  rcases h with ⟨rfl, _⟩ | ⟨g', cur, rfl, hb, hk, _⟩
  · cases hA
  · injection hA with hA
    injection hA with hA
    subst hA
    exact hb
theorem OV.far {w w' : World} {t base g : Nat} {A : Option Addr} {us : List (Int × Int)} (h : OV w t base A us) (hgr : w.grownBy w' (some g)) (hne : ∀ g', A = some ⟨g', 0, none⟩ → g' ≠ g) : OV w' t base A us := by
  rcases h with ⟨rfl, rfl⟩ | ⟨g', cur, rfl, hb, hk, hp⟩
  · exact OV.nil_
  · exact .inr ⟨g', cur, rfl, hb, hk.farm hgr (hne g' rfl), hp⟩
theorem OV.low {w w' : World} {t base Bd : Nat} {A : Option Addr} {us : List (Int × Int)} (h : OV w t base A us) (hb : Below Bd w w') (hl : ∀ g', A = some ⟨g', 0, none⟩ → g' < Bd) : OV w' t base A us := by
  rcases h with ⟨rfl, rfl⟩ | ⟨g', cur, rfl, hb', hk, hp⟩
  · exact OV.nil_
  · exact .inr ⟨g', cur, rfl, hb', (hb.block g' (hl g' rfl)).trans hk, hp⟩
end Go.Proofs.Ytfdfjmibjnmhpaa.B
namespace Go.Proofs.Ytfdfjmibjnmhpaa.V
open Go.RowKit Go.Proofs.Ytfdfjmibjnmhpaa.B

/-- The marks stand in a row of the call's own. -/
def MV (w : World) (t base : Nat) (A : Option Addr) (n : Nat) (k : Int) : Prop := n = 0 ∨ ∃ g cur, A = some ⟨g, 0, none⟩ ∧ base ≤ g ∧ Blk w g t cur ∧ MK cur k n
theorem MV.on {w w' : World} {t base n : Nat} {A : Option Addr} {k : Int} (h : MV w t base A n k) (hb : Below w.heap.size w w') : MV w' t base A n k := by
  rcases h with h | ⟨g, cur, rfl, hg, hk, hp⟩
  · exact .inl h
  · exact .inr ⟨g, cur, rfl, hg, hk.on hb, hp⟩
theorem markMsg_own (k v x a b m : Int) (A : Option Addr) (c t base : Nat) (us : List (Int × Int)) (w : World) (h : OV w t base A us) (hbw : base ≤ w.heap.size) (hn : us.length ≤ 1048576) (h0 : 0 ≤ m) (h1 : m ≤ 16777216) :
    Calls Try.prog 17 #[.agg #[.int .i64 k, .int .i64 v, .int .i64 x, .int .i64 a, .int .i64 b, .slice A us.length c], .int .i64 m] w fun e w' =>
      e = .returned (.int .i64 (m + 2 * us.length)) ∧ MV w' t base A us.length m ∧ Below base w w' := by
  rcases h with ⟨rfl, rfl⟩ | ⟨g, cur, rfl, hg, hb, hs, hp⟩
  · refine (markMsg_nil k v x a b m none c w h0 h1).mono ?_
    rintro e w' ⟨rfl, hb⟩
    exact ⟨by simp, .inl rfl, hb.mono hbw⟩
  · refine (markMsg_any k v x a b m g us.length c t cur w hb hs hn h0 h1).mono ?_
    rintro e w' ⟨rfl, ds, hd, _, hm, hgr⟩
    exact ⟨rfl, .inr ⟨g, ds, rfl, hg, hd, hm⟩, below_grown hgr hg hbw⟩
theorem heldMsg_own (k v x a b m : Int) (A : Option Addr) (c t base n : Nat) (w : World) (h : MV w t base A n m) (hn : n ≤ 1048576) (h0 : 0 ≤ m) (h1 : m ≤ 16777216) :
    Calls Try.prog 18 #[.agg #[.int .i64 k, .int .i64 v, .int .i64 x, .int .i64 a, .int .i64 b, .slice A n c], .int .i64 m] w fun e w' => e = .returned (.int .i64 (m + 2 * n)) ∧ Below w.heap.size w w' := by
  rcases h with rfl | ⟨g, cur, rfl, _, hb, hm⟩
  · refine (heldMsg_nil k v x a b m A c w h0 h1).mono ?_
    rintro e w' ⟨rfl, hb⟩
    exact ⟨by simp, hb⟩
  · exact heldMsg_any k v x a b m g n c t cur w hb hm hn h0 h1
end Go.Proofs.Ytfdfjmibjnmhpaa.V

namespace Go.Proofs.Ytfdfjmibjnmhpaa.B
open Go.RowKit
section
variable {P : Program} {Q : Exit → Act → World → Prop}
def upd (us : Nat → Value) (i : Nat) (v : Value) : Nat → Value := fun j => if j = i then v else us j
theorem upd_same (us : Nat → Value) (i : Nat) (v : Value) : upd us i v i = v := by simp [upd]
theorem upd_ne {us : Nat → Value} {i j : Nat} {v : Value} (h : j ≠ i) : upd us i v j = us j := by simp [upd, h]
/-- How many have not come up yet. -/
def unl (l : List Bool) : Nat := (l.filter (!·)).length
theorem unl_set : ∀ (l : List Bool) (i : Nat), l[i]? = some false → unl (l.set i true) + 1 = unl l
  | [], i, h => by simp at h
  | b :: l, 0, h => by simp at h; subst h; simp [unl]
  | b :: l, i + 1, h => by
    have := unl_set l i (by simpa using h)
    cases b <;> simp [unl] at this ⊢ <;> omega
theorem unl_zero {l : List Bool} (h : unl l = 0) (i : Nat) : l[i]? ≠ some false := fun e => by
  have := unl_set l i e
  omega
theorem got_false {l : Array Bool} {i : Nat} (h : l.getD i true = false) : l.toList[i]? = some false := by
  rw [Array.getD_eq_getD_getElem?] at h
  rw [Array.getElem?_toList]
  rcases e : l[i]? with _ | b
  · rw [e] at h; simp at h
  · rw [e] at h; simp at h; rw [h]
theorem wpAny_hold {ops : Array Oper} {md : Region.Mode} (I : Array Bool → Act → World → Prop)
    (hstep : ∀ listed a w i, i ∈ Region.ready md ops listed → I listed a w → wpOp P ops Q i (I (listed.setIfInBounds i true)) a w)
    (hend : ∀ listed a w, Region.ready md ops listed = [] → I listed a w → Q .normal a w) :
    ∀ (fuel : Nat) (listed : Array Bool) (a : Act) (w : World), unl listed.toList ≤ fuel → I listed a w → wpAny P md ops Q fuel listed a w
  | 0, listed, a, w, hc, h => by
    have hr : Region.ready md ops listed = [] := by
      rw [List.eq_nil_iff_forall_not_mem]
      intro i hi
      exact unl_zero (by omega) i (got_false (mem_ready.1 hi).1)
    exact ⟨hr, hend listed a w hr h⟩
  | fuel + 1, listed, a, w, hc, h => by
    refine ⟨fun hr => hend listed a w hr h, fun i hi => wpOp_mono (fun a' w' h' => ?_) (hstep listed a w i hi h)⟩
    refine wpAny_hold I hstep hend fuel _ a' w' ?_ h'
    have := unl_set listed.toList i (got_false (mem_ready.1 hi).1)
    rw [Array.toList_setIfInBounds]
    omega
/-- What an operation waits for. -/
def deps (o : Oper) : List Nat := (o.after.toList.filter (Region.binds .any)).map (·.on)
def lowB : Nat → List Oper → Bool
  | _, [] => true
  | k, o :: l => (deps o).all (fun j => decide (j < k)) && lowB (k + 1) l
theorem lowB_at : ∀ {l : List Oper} {k i : Nat} {o : Oper}, lowB k l = true → l[i]? = some o → ∀ j ∈ deps o, j < k + i
  | [], _, _, _, _, h => by simp at h
  | o' :: l, k, 0, o, hB, h => by
    simp only [lowB, Bool.and_eq_true] at hB
    simp at h; subst h
    intro j hj
    have := List.all_eq_true.1 hB.1 j hj
    simpa using this
  | o' :: l, k, i + 1, o, hB, h => by
    simp only [lowB, Bool.and_eq_true] at hB
    intro j hj
    have := lowB_at hB.2 (by simpa using h) j hj
    omega
/-- Operation k waits, in n steps at most, for operation j. -/
def waitsB (ops : List Oper) : Nat → Nat → Nat → Bool
  | 0, k, j => j == k
  | n + 1, k, j => j == k || (match ops[k]? with | some o => (deps o).any fun d => waitsB ops n d j | none => false)
/-- L holds of what an operation waits for. -/
def Shut (ops : List Oper) (L : Nat → Prop) : Prop := ∀ k o, ops[k]? = some o → L k → ∀ j ∈ deps o, L j
theorem Shut.far {ops : List Oper} {L : Nat → Prop} (h : Shut ops L) : ∀ (n k j : Nat), waitsB ops n k j = true → L k → L j
  | 0, k, j, hB, hk => by simp [waitsB] at hB; rw [hB]; exact hk
  | n + 1, k, j, hB, hk => by
    simp only [waitsB, Bool.or_eq_true, beq_iff_eq] at hB
    rcases hB with rfl | hB
    · exact hk
    · rcases e : ops[k]? with _ | o
      · rw [e] at hB; simp at hB
      · rw [e] at hB
        obtain ⟨d, hd, hB⟩ := List.any_eq_true.1 hB
        exact h.far n d j hB (h k o e hk d hd)
/-- One operation: from what holds, whatever has come up, to what holds behind it. -/
def StepOk (P : Program) (Q : Exit → Act → World → Prop) (ops : List Oper) (F : (Nat → Value) → Act) (I : (Nat → Prop) → (Nat → Value) → World → Prop) (i : Nat) (o : Oper) : Prop :=
  ∀ (L : Nat → Prop) (us : Nat → Value) (w : World), ¬ L i → (∀ j ∈ deps o, L j) → Shut ops L → I L us w → ∀ K : Act → World → Prop,
    (∀ a' w' v, a' = (F us).put o.dst v → I (fun j => j = i ∨ L j) (upd us i v) w' → K a' w') →
      if Region.wanted o (yielded ops.toArray (F us).tmps) = true then Oper.wp P o (F us) w K Q else K ((F us).put o.dst undef) w
def Each (S : Nat → Oper → Prop) : Nat → List Oper → Prop
  | _, [] => True
  | k, o :: l => S k o ∧ Each S (k + 1) l
theorem Each.nil {S : Nat → Oper → Prop} {k : Nat} : Each S k [] := trivial
theorem Each.cons {S : Nat → Oper → Prop} {k : Nat} {o : Oper} {l : List Oper} (h : S k o) (h2 : Each S (k + 1) l) : Each S k (o :: l) := ⟨h, h2⟩
theorem Each.at_ {S : Nat → Oper → Prop} : ∀ {l : List Oper} {k i : Nat} {o : Oper}, Each S k l → l[i]? = some o → S (k + i) o
  | [], _, _, _, _, h => by simp at h
  | o' :: l, k, 0, o, hE, h => by simp at h; subst h; exact hE.1
  | o' :: l, k, i + 1, o, hE, h => by
    have := Each.at_ hE.2 (show l[i]? = some o by simpa using h)
    rwa [show k + 1 + i = k + (i + 1) by omega] at this
/-- **A region that draws its order, each operation walked once.** F: the frame, by what the operations have yielded; I: what holds once those of L have come up. -/
theorem wp_region_hold {id : Nat} {a : Act} {w : World} {l : List Oper} (F : (Nat → Value) → Act) (I : (Nat → Prop) → (Nat → Value) → World → Prop) (us0 : Nat → Value)
    (hm : P.follows .mixedOrders = true) (hlow : lowB 0 l = true) (ha : a = F us0)
    (hput : Each (fun i o => ∀ us v, (F us).put o.dst v = F (upd us i v)) 0 l)
    (h0 : I (fun _ => False) us0 w.drew)
    (hop : Each (StepOk P Q l F I) 0 l)
    (hend : ∀ (L : Nat → Prop) us w', (∀ i, i < l.length → L i) → I L us w' → Q .normal (F us) w') : (Code.region id l.toArray true).wp P Q a w := by
  refine wp_region_any hm ?_
  let J : Array Bool → Act → World → Prop := fun listed a' w' => listed.size = l.length ∧ Shut l (fun j => listed.getD j false = true) ∧ ∃ us, a' = F us ∧ I (fun j => listed.getD j false = true) us w'
  have hsz : l.toArray.size = l.length := by simp
  refine wpAny_hold J ?_ ?_ _ _ a { w with drawn := w.drawn + 1 } ?_ ?_
  · rintro listed a' w' i hi ⟨hs, hsh, us, rfl, hI⟩
    obtain ⟨hun, o, ho, hall⟩ := mem_ready.1 hi
    have hol : l[i]? = some o := by simpa using ho
    have hil : i < l.length := by
      rcases Nat.lt_or_ge i l.length with h | h
      · exact h
      · rw [List.getElem?_eq_none h] at hol; cases hol
    have hnL : ¬ listed.getD i false = true := by
      rw [Array.getD_eq_getD_getElem?] at hun ⊢
      rw [Array.getElem?_eq_getElem (by omega)] at hun ⊢
      simp at hun ⊢
      exact hun
    have hdep : ∀ j ∈ deps o, listed.getD j false = true := fun j hj => by
      obtain ⟨e, he, rfl⟩ := List.mem_map.1 hj
      obtain ⟨he1, he2⟩ := List.mem_filter.1 he
      exact hall e (by simpa using he1) he2
    have hset : ∀ j, (listed.setIfInBounds i true).getD j false = true ↔ (j = i ∨ listed.getD j false = true) := fun j => by
      rw [Array.getD_eq_getD_getElem?, Array.getD_eq_getD_getElem?]
      by_cases e : j = i
      · subst e
        rw [Array.getElem?_setIfInBounds_self_of_lt (by omega)]
        simp
      · rw [Array.getElem?_setIfInBounds_ne (Ne.symm e)]
        simp [e]
    have hfun : (fun j => (listed.setIfInBounds i true).getD j false = true) = fun j => j = i ∨ listed.getD j false = true := funext fun j => propext (hset j)
    have h1 := Each.at_ hop hol
    rw [Nat.zero_add] at h1
    have hp := Each.at_ hput hol
    rw [Nat.zero_add] at hp
    refine wpOp_step ho fun K hK => h1 _ us w' hnL hdep hsh hI K fun a'' w'' v ha'' hI' => hK _ _ ⟨by simpa using hs, ?_, upd us i v, ?_, ?_⟩
    · intro k ok hk hLk j hj
      rw [hset] at hLk ⊢
      rcases hLk with rfl | hLk
      · rw [hol] at hk; injection hk with hk; subst hk
        exact .inr (hdep j hj)
      · exact .inr (hsh k ok hk hLk j hj)
    · rw [ha'', hp]
    · rw [hfun]; exact hI'
  · rintro listed a' w' hr ⟨hs, hsh, us, rfl, hI⟩
    refine hend _ us w' (fun i => ?_) hI
    induction i using Nat.strongRecOn with
    | _ i ih =>
      intro hi
      rcases hg : listed.getD i false with _ | _
      · exfalso
        have ho : l[i]? = some l[i] := List.getElem?_eq_getElem hi
        have hun : listed.getD i true = false := by
          rw [Array.getD_eq_getD_getElem?] at hg ⊢
          rw [Array.getElem?_eq_getElem (by omega)] at hg ⊢
          simp at hg ⊢
          exact hg
        have : i ∈ Region.ready .any l.toArray listed := mem_ready.2 ⟨hun, l[i], by simp, fun e he hb => by
          have hd : e.on ∈ deps l[i] := List.mem_map.2 ⟨e, List.mem_filter.2 ⟨by simpa using he, hb⟩, rfl⟩
          have hlt := lowB_at hlow ho e.on hd
          exact ih e.on (by omega) (by omega)⟩
        rw [hr] at this
        simp at this
      · rfl
  · have : ∀ n, unl (List.replicate n false) = n := fun n => by
      induction n with
      | zero => rfl
      | succ n ih => simp [unl, List.replicate_succ] at ih ⊢
    rw [Array.toList_replicate, this]
    exact Nat.le_refl _
  · refine ⟨by simp, fun k o hk hL => ?_, us0, ha, ?_⟩
    · replace hL : (Array.replicate l.toArray.size false).getD k false = true := hL
      rw [Array.getD_eq_getD_getElem?] at hL
      rcases e : (Array.replicate l.toArray.size false)[k]? with _ | b
      · rw [e] at hL; simp at hL
      · rw [e] at hL; simp at hL; subst hL
        rw [Array.getElem?_replicate] at e
        split at e <;> simp at e
    · have : (fun j => (Array.replicate l.toArray.size false).getD j false = true) = fun _ => False := funext fun j => propext ⟨fun h => by
        rw [Array.getD_eq_getD_getElem?, Array.getElem?_replicate] at h
        split at h <;> simp at h, False.elim⟩
      rw [this]; exact h0
end
end Go.Proofs.Ytfdfjmibjnmhpaa.B

namespace Go.Proofs.Ytfdfjmibjnmhpaa.B
open Go.RowKit
section
variable {P : Program} {Q : Exit → Act → World → Prop}
/-- The frame once the operations of l have yielded us. -/
def putL : List Oper → (Nat → Value) → Nat → Act → Act
  | [], _, _, a => a
  | o :: l, us, k, a => putL l us (k + 1) (a.put o.dst (us k))
/-- One operation: from what those that it waits for have yielded, to what it yields. -/
def GrowOk (P : Program) (ops : List Oper) (F : (Nat → Value) → Act) (V : Nat → Value → World → Prop) (w0 : World) (i : Nat) (o : Oper) : Prop :=
  ∀ (us : Nat → Value) (w : World), Below w0.heap.size w0 w → (∀ j ∈ deps o, V j (us j) w) → ∀ (Q : Exit → Act → World → Prop) (K : Act → World → Prop),
    (∀ a' w' v, a' = (F us).put o.dst v → Below w.heap.size w w' → V i v w' → K a' w') →
      if Region.wanted o (yielded ops.toArray (F us).tmps) = true then Oper.wp P o (F us) w K Q else K ((F us).put o.dst undef) w
theorem Each.imp {S R : Nat → Oper → Prop} (h : ∀ k o, S k o → R k o) : ∀ {l : List Oper} {k : Nat}, Each S k l → Each R k l
  | [], _, _ => trivial
  | _ :: _, _, hE => ⟨h _ _ hE.1, Each.imp h hE.2⟩
theorem put_comm (a : Act) (d : Option Tmp) (t : Tmp) (u v : Value) (h : d ≠ some t) : (a.put d u).put (some t) v = (a.put (some t) v).put d u := by
  cases d with
  | none => rfl
  | some s =>
    have hne : s ≠ t := fun e => h (by rw [e])
    simp only [Act.put]
    rw [Array.setIfInBounds_comm _ _ hne]
theorem put_put (a : Act) (d : Option Tmp) (u v : Value) : (a.put d u).put d v = a.put d v := by
  cases d with
  | none => rfl
  | some s => simp [Act.put, Array.setIfInBounds_setIfInBounds]
/-- What the slot of an operation holds. -/
def cur (a : Act) (o : Oper) : Value := match o.dst with | some t => a.tmps.getD t undef | none => undef
theorem put_cur (a : Act) (o : Oper) : a.put o.dst (cur a o) = a := by
  unfold cur
  cases h : o.dst with
  | none => rfl
  | some t =>
    have : a.tmps.setIfInBounds t (a.tmps.getD t undef) = a.tmps := by
      apply Array.ext_getElem?
      intro i
      rw [Array.getElem?_setIfInBounds]
      split
      · rename_i e; subst e
        split
        · rename_i hlt
          first | (rw [Array.getElem?_eq_getElem hlt]; rfl) | (rw [Array.getD_eq_getD_getElem?, Array.getElem?_eq_getElem hlt]; rfl)
        · rename_i hlt
          rw [Array.getElem?_eq_none (by omega)]
      · rfl
    simp only [Act.put, this]
theorem putL_cur : ∀ (l : List Oper) (us : Nat → Value) (k : Nat) (a : Act), (∀ i o, l[i]? = some o → us (k + i) = cur a o) → putL l us k a = a
  | [], _, _, _, _ => rfl
  | o :: l, us, k, a, h => by
    have h0 := h 0 o rfl
    rw [Nat.add_zero] at h0
    rw [putL, h0, put_cur]
    exact putL_cur l us (k + 1) a fun i o' ho => by
      have := h (i + 1) o' (by simpa using ho)
      rwa [show k + 1 + i = k + (i + 1) by omega]
/-- No two write one slot. -/
def dstB : List Oper → Bool
  | [] => true
  | o :: l => (match o.dst with | none => true | some t => l.all fun o' => o'.dst != some t) && dstB l
theorem putL_put : ∀ (l : List Oper) (us : Nat → Value) (k : Nat) (a : Act) (t : Tmp) (v : Value), (∀ o ∈ l, o.dst ≠ some t) → (putL l us k a).put (some t) v = putL l us k (a.put (some t) v)
  | [], _, _, _, _, _, _ => rfl
  | o :: l, us, k, a, t, v, h => by
    rw [putL, putL_put l us (k + 1) _ t v (fun o' ho => h o' (List.mem_cons_of_mem _ ho)), put_comm _ _ _ _ _ (h o List.mem_cons_self)]
    rfl
theorem putL_upd : ∀ (l : List Oper) (us : Nat → Value) (k i : Nat) (v : Value) (a : Act), i < k → putL l (upd us i v) k a = putL l us k a
  | [], _, _, _, _, _, _ => rfl
  | o :: l, us, k, i, v, a, h => by
    rw [putL, putL, upd_ne (by omega), putL_upd l us (k + 1) i v _ (by omega)]
theorem putL_at : ∀ (l : List Oper) (us : Nat → Value) (k i : Nat) (v : Value) (a : Act) (o : Oper), dstB l = true → l[i]? = some o → (putL l us k a).put o.dst v = putL l (upd us (k + i) v) k a
  | [], _, _, _, _, _, _, _, h => by simp at h
  | o' :: l, us, k, 0, v, a, o, hd, h => by
    simp at h
    subst h
    simp only [dstB, Bool.and_eq_true] at hd
    show (putL l us (k + 1) (a.put o'.dst (us k))).put o'.dst v = putL l (upd us k v) (k + 1) (a.put o'.dst (upd us k v k))
    rw [upd_same, putL_upd l us (k + 1) k v _ (by omega)]
    cases hdst : o'.dst with
    | none => rfl
    | some t =>
      rw [hdst] at hd
      rw [putL_put l us (k + 1) _ t v (fun o' ho => by
        have := List.all_eq_true.1 hd.1 o' ho
        simpa using this), put_put]
  | o' :: l, us, k, i + 1, v, a, o, hd, h => by
    simp only [dstB, Bool.and_eq_true] at hd
    rw [putL, putL, upd_ne (by omega), putL_at l us (k + 1) i v _ o hd.2 (by simpa using h), show k + 1 + i = k + (i + 1) by omega]
theorem Each.of_at {S : Nat → Oper → Prop} : ∀ {l : List Oper} {k : Nat}, (∀ i o, l[i]? = some o → S (k + i) o) → Each S k l
  | [], _, _ => trivial
  | o :: l, k, h => ⟨by have := h 0 o rfl; rwa [Nat.add_zero] at this, Each.of_at fun i o' ho => by
    have := h (i + 1) o' (by simpa using ho)
    rwa [show k + 1 + i = k + (i + 1) by omega]⟩
/-- **A region that draws its order and only adds memory: each operation walked once.** V: what operation j yields, known at whatever world comes after; F: the frame, by what has been yielded. -/
theorem wp_region_grow {id : Nat} {a : Act} {w : World} {l : List Oper} (F : (Nat → Value) → Act) (hF : ∀ us, putL l us 0 a = F us) (V : Nat → Value → World → Prop)
    (hm : P.follows .mixedOrders = true) (hlow : lowB 0 l = true) (hd : dstB l = true)
    (hV : ∀ j u w1 w2, V j u w1 → Below w1.heap.size w1 w2 → V j u w2)
    (hop : Each (GrowOk P l F V w) 0 l)
    (hend : ∀ us w', (∀ i, i < l.length → V i (us i) w') → Below w.heap.size w w' → Q .normal (F us) w') : (Code.region id l.toArray true).wp P Q a w := by
  obtain rfl : (fun us => putL l us 0 a) = F := funext hF
  refine wp_region_hold (fun us => putL l us 0 a) (fun L us wx => Below w.heap.size w wx ∧ ∀ j, L j → V j (us j) wx) (fun i => match l[i]? with | some o => cur a o | none => undef) hm hlow ?_ ?_ ⟨(Below.refl _ _).drew, fun _ h => h.elim⟩ (hop.imp fun i o h L us wx hnL hdep _ hI K hK => ?_) (fun L us w' hL hI => hend us w' (fun i hi => hI.2 i (hL i hi)) hI.1)
  · exact (putL_cur l _ 0 a fun i o ho => by rw [Nat.zero_add, ho]).symm
  · exact Each.of_at fun i o ho us v => by
      have := putL_at l us 0 i v a o hd ho
      rwa [Nat.zero_add] at this ⊢
  refine h us wx hI.1 (fun j hj => hI.2 j (hdep j hj)) Q K fun a' w' v ha hb hv => hK a' w' v ha ⟨hI.1.trans (hb.mono hI.1.size), fun j hj => ?_⟩
  by_cases e : j = i
  · subst e; rw [upd_same]; exact hv
  · rw [upd_ne e]; exact hV j _ _ _ (hI.2 j (hj.resolve_left e)) hb
end
end Go.Proofs.Ytfdfjmibjnmhpaa.B

namespace Go.Proofs.Ytfdfjmibjnmhpaa.B
open Go.RowKit
section
variable {P : Program} {Q : Exit → Act → World → Prop}
/-- The last operation: from what all the others have yielded. -/
def LastOk (P : Program) (ops : List Oper) (F : (Nat → Value) → Act) (V : Nat → Value → World → Prop) (R : (Nat → Value) → World → Prop) (w0 : World) (n : Nat) (o : Oper) : Prop :=
  ∀ (us : Nat → Value) (w : World), Below w0.heap.size w0 w → (∀ j, j < n → V j (us j) w) → ∀ (Q : Exit → Act → World → Prop) (K : Act → World → Prop),
    (∀ a' w' v, a' = (F us).put o.dst v → R (upd us n v) w' → K a' w') →
      if Region.wanted o (yielded ops.toArray (F us).tmps) = true then Oper.wp P o (F us) w K Q else K ((F us).put o.dst undef) w
def FinOk (P : Program) (ops : List Oper) (F : (Nat → Value) → Act) (V : Nat → Value → World → Prop) (R : (Nat → Value) → World → Prop) (w0 : World) (n : Nat) (i : Nat) (o : Oper) : Prop :=
  (i ≠ n → GrowOk P ops F V w0 i o) ∧ (i = n → LastOk P ops F V R w0 n o)
theorem wp_region_fin {id : Nat} {a : Act} {w : World} {l : List Oper} (F : (Nat → Value) → Act) (hF : ∀ us, putL l us 0 a = F us) (V : Nat → Value → World → Prop) (R : (Nat → Value) → World → Prop) (n : Nat)
    (hm : P.follows .mixedOrders = true) (hlow : lowB 0 l = true) (hd : dstB l = true) (hn : l.length = n + 1) (hw : (List.range n).all (fun j => waitsB l n n j) = true)
    (hV : ∀ j u w1 w2, V j u w1 → Below w1.heap.size w1 w2 → V j u w2)
    (hop : Each (FinOk P l F V R w n) 0 l)
    (hend : ∀ us w', R us w' → Q .normal (F us) w') : (Code.region id l.toArray true).wp P Q a w := by
  obtain rfl : (fun us => putL l us 0 a) = F := funext hF
  refine wp_region_hold (fun us => putL l us 0 a) (fun L us wx => (L n → R us wx) ∧ (¬ L n → Below w.heap.size w wx ∧ ∀ j, L j → V j (us j) wx)) (fun i => match l[i]? with | some o => cur a o | none => undef) hm hlow ?_ ?_ ⟨fun h => h.elim, fun _ => ⟨(Below.refl _ _).drew, fun _ h => h.elim⟩⟩ (Each.of_at fun i o ho L us wx hnL hdep hsh hI K hK => ?_) (fun L us w' hL hI => hend us w' (hI.1 (hL n (by omega))))
  · exact (putL_cur l _ 0 a fun i o ho => by rw [Nat.zero_add, ho]).symm
  · exact Each.of_at fun i o ho us v => by
      have := putL_at l us 0 i v a o hd ho
      rwa [Nat.zero_add] at this ⊢
  rw [Nat.zero_add] at hnL hK
  have h := Each.at_ hop ho
  rw [Nat.zero_add] at h
  by_cases hi : i = n
  · have hN : ¬ L n := by rw [← hi]; exact hnL
    obtain ⟨hB, hv⟩ := hI.2 hN
    refine h.2 hi us wx hB (fun j hj => hv j ?_) Q K fun a' w' v ha hr => hK a' w' v ha ⟨fun _ => by rw [hi]; exact hr, fun hh => absurd (.inl hi.symm) hh⟩
    have hwj := List.all_eq_true.1 hw j (List.mem_range.2 hj)
    cases n with
    | zero => omega
    | succ m =>
      simp only [waitsB, Bool.or_eq_true, beq_iff_eq] at hwj
      rcases hwj with e | hwj
      · omega
      · rcases e : l[m + 1]? with _ | o'
        · rw [e] at hwj; simp at hwj
        · rw [e] at hwj
          obtain ⟨d, hd2, hB2⟩ := List.any_eq_true.1 hwj
          have e2 : o = o' := by rw [hi, e] at ho; exact (Option.some.inj ho).symm
          exact hsh.far m d j hB2 (hdep d (by rw [e2]; exact hd2))
  · have hN : ¬ (i = n) := hi
    by_cases hLn : L n
    · exfalso
      have hil : i < l.length := (List.getElem?_eq_some_iff.1 ho).1
      exact hnL (hsh.far n n i (List.all_eq_true.1 hw i (List.mem_range.2 (by omega))) hLn)
    · obtain ⟨hB, hv⟩ := hI.2 hLn
      refine h.1 hi us wx hB (fun j hj => hv j (hdep j hj)) Q K fun a' w' v ha hb hvv => hK a' w' v ha ⟨fun hh => absurd (hh.resolve_left (Ne.symm hi)) hLn, fun _ => ⟨hB.trans (hb.mono hB.size), fun j hj => ?_⟩⟩
      by_cases e : j = i
      · subst e; rw [upd_same]; exact hvv
      · rw [upd_ne e]; exact hV j _ _ _ (hv j (hj.resolve_left e)) hb
end
end Go.Proofs.Ytfdfjmibjnmhpaa.B
