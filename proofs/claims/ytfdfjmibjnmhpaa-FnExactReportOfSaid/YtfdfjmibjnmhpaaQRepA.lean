/-
  An argument that is a message, opened: its five numbers, and its votes as a list. What the helpers of the laws do with messages: contracts of szMsg, toMsg and eqMsg. Small steps for the walks of laws: a box and a list kept over a call. Lists of bytes in memory, and what eqByteS, markByteS, heldByteS and toByteS do: contracts. What the helpers markVoteS, heldVoteS, markMsg and heldMsg do: contracts. Rows of bytes and blocks kept behind a mark that is laid on another block. What insertVote answers: its contract. Rows of votes of the call's own, and the marks laid on them. A region that draws its order, walked by what holds between any two of its operations: each operation is walked once, whatever the order. A region that draws its order, whose operations change no memory that was there (a store into a block of the region's own apart): each operation is walked once. A region that draws its order, whose operations only add memory but for the last, which waits for all the others: each operation is walked once. What a state would report, of the model and of the program: contracts. No statement is proved here.
-/
import Derived.Test.YtfdfjmibjnmhpaaLiftR
import Derived.Test.YtfdfjmibjnmhpaaBal3
import Derived.Test.YtfdfjmibjnmhpaaChecked
import Derived.Test.YtfdfjmibjnmhpaaLift
import Derived.Test.YtfdfjmibjnmhpaaVotes
import Derived.StillTailTactics
import Derived.Deep.AppendLies
import Derived.OwnWalk
import Derived.Test.YtfdfjmibjnmhpaaReads
import Derived.IntWalk
import Derived.Test.YtfdfjmibjnmhpaaBase
import Derived.Orders
import Derived.RegionTactic
import Derived.Test.YtfdfjmibjnmhpaaQTop
set_option linter.unusedVariables false
set_option maxRecDepth 100000
namespace Go.Proofs.Ytfdfjmibjnmhpaa.B
open Go.RowKit Go.ChangeShapes Go.WideShapes Go.Deep

section
variable {H : Type} {enc : TypeId × Value → H} {P : Program} {w : World} {base : Nat} {spare : Nat → Bool} {held : Bool}
end

section
variable {H : Type} {enc : TypeId × Value → H} {w : World}
theorem open_msg {fuel : Nat} {cs : List Value} {x : DataW H × List MemPlace} (h : DataW.trod enc Try.prog w 0 (fun _ => true) true fuel 57 cs = some x) :
    ∃ (k v x a b : Int) (A : Option Addr) (c : Nat) (vs : List (Int × Int)), cs = [.int .i64 k, .int .i64 v, .int .i64 x, .int .i64 a, .int .i64 b, .slice A vs.length c] ∧ vs.length ≤ maxLen ∧ Rd w w.heap.size A vs := by
  obtain ⟨xs, n, _, _, hlen, _, _⟩ := DataW.trod_struct Try.underlying57 h
  rw [show Try.prog.cellsOf 57 = 6 by kernel_rfl] at hlen
  obtain ⟨k, hk⟩ := int_field Try.underlying57 h 0 _ rfl Try.underlying3 (by kernel_rfl)
  obtain ⟨v, hv⟩ := int_field Try.underlying57 h 1 _ rfl Try.underlying3 (by kernel_rfl)
  obtain ⟨x, hx⟩ := int_field Try.underlying57 h 2 _ rfl Try.underlying3 (by kernel_rfl)
  obtain ⟨n3, y3, h3⟩ := field_of Try.underlying57 h 3 _ rfl
  obtain ⟨n4, y4, h4⟩ := field_of Try.underlying57 h 4 _ rfl
  have h3 : DataW.trod enc Try.prog w 0 (fun _ => true) true n3 24 ((cs.drop 3).take (Try.prog.cellsOf 24)) = some y3 := h3
  have h4 : DataW.trod enc Try.prog w 0 (fun _ => true) true n4 22 ((cs.drop 5).take (Try.prog.cellsOf 22)) = some y4 := h4
  have e3 : Try.prog.cellsOf 24 = 2 := by kernel_rfl
  have e4 : Try.prog.cellsOf 22 = 1 := by kernel_rfl
  rw [e3] at h3
  rw [e4] at h4
  obtain ⟨a, b, hab⟩ := open_vote h3
  obtain ⟨A, c, vs, hcs, hm, hr⟩ := open_pairs Try.underlying22 Try.underlying24 (by kernel_rfl) rfl rfl (by kernel_rfl) (by kernel_rfl) Try.underlying3 Try.underlying3 h4
  match cs, hlen with
  | [c0, c1, c2, c3, c4, c5], _ =>
    simp at hk hv hx hab hcs
    exact ⟨k, v, x, a, b, A, c, vs, by rw [hk, hv, hx, hab.1, hab.2, hcs], hm, hr⟩
end
end Go.Proofs.Ytfdfjmibjnmhpaa.B

namespace Go.Proofs.Ytfdfjmibjnmhpaa.V
open Go.RowKit Go.Proofs.Ytfdfjmibjnmhpaa.B

theorem szMsg_any (k v x a b : Int) (A : Option Addr) (n c : Nat) (left : Int) (w : World) (hn : n ≤ maxLen) (h0 : 0 ≤ left) (h1 : left ≤ 1048576) :
    Calls Try.prog 24 #[.agg #[.int .i64 k, .int .i64 v, .int .i64 x, .int .i64 a, .int .i64 b, .slice A n c], .int .i64 left] w fun e w' => e = .returned (.int .i64 (if left < n then -1 else left - n)) ∧ Below w.heap.size w w' := by
  by_cases h : left < n
  · have hc : ∀ W, Calls Try.prog 33 #[.slice A n c, .int .i64 left] W fun e w' => e = .returned (.int .i64 (-1)) ∧ W = w' := fun W => by
      have := sz_any A n c left W hn h0 h1
      rwa [if_pos h] at this
    have HC := Lib.hid hc; clear hc
    rw [if_pos h]
    go_enter Try.func24, Try.ntmps24
    go_wp2_with (go_at_call 33; refine (HC.out _).mono ?_; rintro e w1 ⟨rfl, rfl⟩)
    go_ret
    exact ⟨rfl, (Below.refl _ _).alloc (Nat.le_refl _) _⟩
  · have hc : ∀ W, Calls Try.prog 33 #[.slice A n c, .int .i64 left] W fun e w' => e = .returned (.int .i64 (left - n)) ∧ W = w' := fun W => by
      have := sz_any A n c left W hn h0 h1
      rwa [if_neg h] at this
    have HC := Lib.hid hc; clear hc
    rw [if_neg h]
    go_enter Try.func24, Try.ntmps24
    go_wp2_with (go_at_call 33; refine (HC.out _).mono ?_; rintro e w1 ⟨rfl, rfl⟩)
    go_ret
    exact ⟨rfl, (Below.refl _ _).alloc (Nat.le_refl _) _⟩

set_option maxHeartbeats 400000 in
theorem toMsg_any (k v x a b : Int) (A : Option Addr) (c : Nat) (vs : List (Int × Int)) (w : World) (hr : Rd w w.heap.size A vs) (hn : vs.length ≤ 1048576) :
    Calls Try.prog 26 #[.agg #[.int .i64 k, .int .i64 v, .int .i64 x, .int .i64 a, .int .i64 b, .slice A vs.length c]] w fun e w' =>
      ∃ g cs, e = .returned (.agg #[.int .i64 k, .int .i64 v, .int .i64 x, .int .i64 a, .int .i64 b, .slice (some ⟨g, 0, none⟩) vs.length vs.length]) ∧ w.heap.size ≤ g ∧ Blk w' g 34 cs ∧ PC cs vs vs.length ∧ Below w.heap.size w w' := by
  go_enter Try.func26, Try.ntmps26
  go_wp2_with fail
  refine (toVote_any a b _).mono ?_
  rintro e w1 ⟨rfl, hb1⟩
  obtain ⟨hc1, hf1⟩ := bcell hb1
  have hz1 : w.heap.size + 2 < w1.heap.size := by have := hb1.size; simp at this; omega
  have hz1a : w.heap.size + 1 < w1.heap.size := by omega
  have hz1b : w.heap.size < w1.heap.size := by omega
  have hB1 : Below w.heap.size w w1 := Below.trans (by repeat (first | exact Below.refl _ _ | refine Below.alloc ?_ (by simp <;> omega) _ | refine Below.setCell ?_ (by simp <;> omega) _)) (hb1.mono (by simp; omega))
  have hr1 : Rd w1 w1.heap.size A vs := (hr.below hB1).more hB1.size
  clear hb1
  go_wp2_with fail
  refine (toVoteS_any A c vs _ ?_ hn).mono ?_
  · exact (hr.below (by repeat (first | exact hB1 | refine Below.setCell ?_ (by simp <;> omega) _))).more (by simp [World.setCell]; omega)
  rintro e w2 ⟨g, cs, rfl, hg, hk, hp, hb2⟩
  obtain ⟨hc2, hf2⟩ := bcell hb2
  have hz2 : w1.heap.size ≤ w2.heap.size := by have := hb2.size; simpa [World.setCell] using this
  have hz3 : w.heap.size + 2 < w2.heap.size := by omega
  have hz3a : w.heap.size + 1 < w2.heap.size := by omega
  have hz3b : w.heap.size < w2.heap.size := by omega
  have hg3 : w1.heap.size ≤ g := by simpa [World.setCell] using hg
  have hB2 : Below w.heap.size w w2 := Below.trans (by repeat (first | exact hB1 | refine Below.setCell ?_ (by simp <;> omega) _)) (hb2.mono (by simp [World.setCell]; omega))
  clear hb2 hr1 hB1 hg
  go_wp2
  refine bodyPost_ret (v := .agg #[.int .i64 k, .int .i64 v, .int .i64 x, .int .i64 a, .int .i64 b, .slice (some ⟨g, 0, none⟩) vs.length vs.length]) (by simp [results, Try.results26, go_sem, hc1, hc2, hz1a]) rfl ⟨g, cs, rfl, by omega, ?_, hp, ?_⟩
  · iterate 7 refine Blk.far ?_ (by simp; omega) _
    exact hk
  · iterate 7 refine Below.setCell ?_ (by simp <;> omega) _
    exact hB2

set_option maxHeartbeats 400000 in
theorem eqMsg_same (k v x a b : Int) (A C : Option Addr) (c d : Nat) (vs : List (Int × Int)) (w : World) (hr : Rd w w.heap.size A vs) (hs : Rd w w.heap.size C vs) (hn : vs.length ≤ 1048576) :
    Calls Try.prog 15 #[.agg #[.int .i64 k, .int .i64 v, .int .i64 x, .int .i64 a, .int .i64 b, .slice A vs.length c], .agg #[.int .i64 k, .int .i64 v, .int .i64 x, .int .i64 a, .int .i64 b, .slice C vs.length d]] w fun e w' => e = .returned (.bool true) ∧ Below w.heap.size w w' := by
  have hne : ∀ i : Int, (i != i) = false := fun i => by simp
  go_enter Try.func15, Try.ntmps15
  go_wp2_with fail
  refine (eqVote_is true a b a b (by simp) _).mono ?_
  rintro e w1 ⟨rfl, hb1⟩
  obtain ⟨hc1, hf1⟩ := bcell hb1
  have hz1a : w.heap.size + 1 < w1.heap.size := by have := hb1.size; simp at this; omega
  have hz1b : w.heap.size < w1.heap.size := by omega
  have hB1 : Below w.heap.size w w1 := Below.trans (((Below.refl _ _).alloc (Nat.le_refl _) _).alloc (by simp) _) (hb1.mono (by simp; omega))
  have hr1 : Rd w1 w1.heap.size A vs := (hr.below hB1).more hB1.size
  have hs1 : Rd w1 w1.heap.size C vs := (hs.below hB1).more hB1.size
  clear hb1 hr hs
  go_wp2_with fail
  refine (eqVoteS_same A C c d vs _ hr1 hs1 hn).mono ?_
  rintro e w2 ⟨rfl, hb2⟩
  have hB2 : Below w.heap.size w w2 := hB1.trans (hb2.mono hB1.size)
  go_wp2
  go_ret
  exact ⟨rfl, hB2⟩
end Go.Proofs.Ytfdfjmibjnmhpaa.V

namespace Go.Proofs.Ytfdfjmibjnmhpaa.B
open Go.RowKit

theorem Rd.dr {w : World} {A : Option Addr} {vs : List (Int × Int)} (h : Rd w w.heap.size A vs) : Rd w.drew w.drew.heap.size A vs := h
end Go.Proofs.Ytfdfjmibjnmhpaa.B
namespace Go.Proofs.Ytfdfjmibjnmhpaa.V
open Go.RowKit Go.Proofs.Ytfdfjmibjnmhpaa.B
theorem szMsg_big (k v x a b : Int) (A : Option Addr) (c : Nat) (vs : List (Int × Int)) (w : World) (hm : vs.length ≤ maxLen) (hn : (1048576 : Int) < vs.length) :
    Calls Try.prog 24 #[.agg #[.int .i64 k, .int .i64 v, .int .i64 x, .int .i64 a, .int .i64 b, .slice A vs.length c], .int .i64 1048576] w fun e w' => e = .returned (.int .i64 (-1)) ∧ Below w.heap.size w w' := by
  have := szMsg_any k v x a b A vs.length c 1048576 w hm (by omega) (by omega)
  rwa [if_pos (by omega)] at this
theorem szMsg_small (k v x a b : Int) (A : Option Addr) (c : Nat) (vs : List (Int × Int)) (w : World) (hn : vs.length ≤ 1048576) :
    Calls Try.prog 24 #[.agg #[.int .i64 k, .int .i64 v, .int .i64 x, .int .i64 a, .int .i64 b, .slice A vs.length c], .int .i64 1048576] w fun e w' => e = .returned (.int .i64 (1048576 - vs.length)) ∧ Below w.heap.size w w' := by
  have := szMsg_any k v x a b A vs.length c 1048576 w (by unfold maxLen; omega) (by omega) (by omega)
  rwa [if_neg (by omega)] at this
end Go.Proofs.Ytfdfjmibjnmhpaa.V

namespace Go.Proofs.Ytfdfjmibjnmhpaa.B
open Go.RowKit

/-- A slice value at address A reads, below block Bd, as the bytes xs. -/
def RdB (w : World) (Bd : Nat) (A : Option Addr) (xs : List Int) : Prop :=
  0 < xs.length → ∃ b off, A = some ⟨b, off, none⟩ ∧ b < Bd ∧ ∀ i, i < xs.length → w.cell? ⟨b, off + i, none⟩ = some (.int .u8 (xs.getD i 0))
section
variable {w w' : World} {Bd Bd' : Nat} {A : Option Addr} {xs : List Int}
theorem RdB.keep (h : RdB w Bd A xs) (hk : ∀ b o, b < Bd → w'.cell? ⟨b, o, none⟩ = w.cell? ⟨b, o, none⟩) : RdB w' Bd A xs := fun hn => by
  obtain ⟨b, off, e, hb, hc⟩ := h hn
  exact ⟨b, off, e, hb, fun i hi => (hk _ _ hb).trans (hc i hi)⟩
theorem RdB.more (h : RdB w Bd A xs) (hB : Bd ≤ Bd') : RdB w Bd' A xs := fun hn => by
  obtain ⟨b, off, e, hb, hc⟩ := h hn
  exact ⟨b, off, e, by omega, hc⟩
theorem RdB.below (h : RdB w Bd A xs) (hb : Below Bd w w') : RdB w' Bd A xs := h.keep fun _ _ hp => hb.cell hp
theorem RdB.alloc (h : RdB w Bd A xs) (hB : Bd ≤ w.heap.size) (o : Obj) : RdB (w.alloc o) Bd A xs := h.keep fun b o' hp => World.cell?_alloc_lt w o ⟨b, o', none⟩ (by simpa using (show b < w.heap.size by omega))
theorem RdB.on (h : RdB w w.heap.size A xs) (hb : Below w.heap.size w w') : RdB w' w'.heap.size A xs := (h.below hb).more hb.size
theorem RdB.up (h : RdB w w.heap.size A xs) (O : Obj) : RdB (w.alloc O) (w.alloc O).heap.size A xs := (h.alloc (Nat.le_refl _) O).more (by simp)
theorem RdB.nil_ : RdB w Bd A [] := fun h => absurd h (by simp)
theorem RdB.at_ (h : RdB w Bd A xs) {k : Nat} (hk : k < xs.length) : ∃ b off, A = some ⟨b, off, none⟩ ∧ b < Bd ∧ w.cell? ⟨b, off + k, none⟩ = some (.int .u8 (xs.getD k 0)) := by
  obtain ⟨b, off, rfl, hb, hc⟩ := h (by omega)
  exact ⟨b, off, rfl, hb, hc k hk⟩
end

/-- The first k bytes of xs stand in the cells cs. -/
def PB (cs : Array Value) (xs : List Int) (k : Nat) : Prop := xs.length ≤ cs.size ∧ ∀ i, i < k → cs[i]? = some (.int .u8 (xs.getD i 0))
theorem PB.zero {cs : Array Value} {xs : List Int} (h : xs.length ≤ cs.size) : PB cs xs 0 := ⟨h, fun i hi => absurd hi (by omega)⟩
theorem PB.step {cs : Array Value} {xs : List Int} {k : Nat} (h : PB cs xs k) (hk : k < xs.length) : PB (cs.setIfInBounds k (.int .u8 (xs.getD k 0))) xs (k + 1) := by
  refine ⟨by simpa using h.1, fun i hi => ?_⟩
  have hs := h.1
  by_cases e : i = k
  · subst e
    rw [Array.getElem?_setIfInBounds_self_of_lt (by omega)]
  · rw [Array.getElem?_setIfInBounds_ne (by omega)]
    exact h.2 i (by omega)
theorem PB.rd {w : World} {g t Bd : Nat} {cs : Array Value} {xs : List Int} (h : PB cs xs xs.length) (hb : Blk w g t cs) (hg : g < Bd) : RdB w Bd (some ⟨g, 0, none⟩) xs :=
  fun _ => ⟨g, 0, rfl, hg, fun i hi => by rw [Nat.zero_add, hb.cell]; exact h.2 i hi⟩

/-- A slice of bytes of the call's own: nil, or a row of its own whose first cells are xs. -/
def OB (w : World) (t base : Nat) (A : Option Addr) (xs : List Int) : Prop := (A = none ∧ xs = []) ∨ ∃ g cur, A = some ⟨g, 0, none⟩ ∧ base ≤ g ∧ Blk w g t cur ∧ PB cur xs xs.length
theorem OB.nil_ {w : World} {t base : Nat} : OB w t base none [] := .inl ⟨rfl, rfl⟩
theorem OB.of_own {w : World} {base t n c : Nat} {A : Option Addr} {xs : List Int} (h : w.ownsRow base t 1 (.slice A n c) n (xs.map (Value.int .u8))) : n = xs.length ∧ OB w t base A xs := by
  obtain ⟨hl, h⟩ := h
  have hn : n = xs.length := by simpa using hl.symm
  refine ⟨hn, ?_⟩
  rcases h with ⟨h1, h2⟩ | ⟨g, cap, cur, h1, h2, h3, h4, h5, h6, h7⟩
  · injection h1 with h1
    exact .inl ⟨h1, List.eq_nil_of_length_eq_zero (by omega)⟩
  · injection h1 with h1
    refine .inr ⟨g, cur, h1, h2, h3, by omega, fun i hi => ?_⟩
    have hi' : i < n := by omega
    have : (cur.toList.take (n * 1))[i]? = some (.int .u8 (xs.getD i 0)) := by
      rw [h7]
      simp [List.getD, List.getElem?_eq_getElem hi]
    rw [List.getElem?_take_of_lt (by omega)] at this
    simpa using this
theorem OB.rd {w : World} {t base : Nat} {A : Option Addr} {xs : List Int} (h : OB w t base A xs) : RdB w w.heap.size A xs := by
  rcases h with ⟨rfl, rfl⟩ | ⟨g, cur, rfl, _, hb, hp⟩
  · exact RdB.nil_
  · exact hp.rd hb hb.lt
theorem OB.on {w w' : World} {t base : Nat} {A : Option Addr} {xs : List Int} (h : OB w t base A xs) (hb : Below w.heap.size w w') : OB w' t base A xs := by
  rcases h with ⟨rfl, rfl⟩ | ⟨g, cur, rfl, hg, hk, hp⟩
  · exact OB.nil_
  · exact .inr ⟨g, cur, rfl, hg, hk.on hb, hp⟩
end Go.Proofs.Ytfdfjmibjnmhpaa.B

namespace Go.Proofs.Ytfdfjmibjnmhpaa.V
open Go.RowKit Go.Proofs.Ytfdfjmibjnmhpaa.B

set_option maxHeartbeats 400000 in
theorem eqByteS_same (A C : Option Addr) (c d : Nat) (xs : List Int) (w : World) (hr : RdB w w.heap.size A xs) (hs : RdB w w.heap.size C xs) (hn : xs.length ≤ 16777216) :
    Calls Try.prog 101 #[.slice A xs.length c, .slice C xs.length d] w fun e w' => e = .returned (.bool true) ∧ Below w.heap.size w w' := by
  obtain ⟨n, hvn⟩ : ∃ n, xs.length = n := ⟨_, rfl⟩
  rw [hvn] at hn ⊢
  have HV := Lib.hid hvn; clear hvn
  go_enter Try.func101, Try.ntmps101
  go_wp2
  go_loopw [5] (fun i wr => ∃ (k : Nat), k ≤ n ∧ i = .int .i64 k ∧ Below w.heap.size w wr) (fun i _ => n - (intOf i).toNat)
  case atStart => exact ⟨0, Nat.zero_le _, rfl, Below.refl _ _⟩
  case round =>
    obtain ⟨k, hk, rfl, hbel⟩ := hrel
    by_cases hlt : k < n
    · obtain ⟨b, off, rfl, hb, hc0⟩ := (hr.below hbel).at_ (k := k) (by rw [HV.out]; omega)
      obtain ⟨b', off', rfl, hb', hc1⟩ := (hs.below hbel).at_ (k := k) (by rw [HV.out]; omega)
      clear hr hs
      generalize xs.getD k 0 = y at *
      have C0 := fun x : Lat wr => x.cell hc0
      have C1 := fun x : Lat wr => x.cell hc1
      have hne : (y != y) = false := by simp
      go_wp2
      refine wp_region_lat (by kernel_rfl) (by kernel_rfl) ?_
      repeat (go_big_quiet_step (fail))
      refine wpQuiet_nil ?_
      rintro _ ⟨⟨w3, hb3⟩, rfl⟩
      clear C0 C1
      go_wp2
      go_roundw
      case rel => exact ⟨k + 1, by omega, by go_num, hbel.trans (hb3.mono hbel.size)⟩
      case measure => simp [intOf]; omega
    · go_wp2
      go_ret
      exact ⟨rfl, hbel⟩

/-- The cells cs bear the marks k, k+1, .. as bytes in the n first places. -/
def MKB (cs : Array Value) (k : Int) (n : Nat) : Prop := ∀ i, i < n → cs[i]? = some (.int .u8 ((k + i) % 256))

theorem MKB.step {cs : Array Value} {k : Int} {j : Nat} (h : MKB cs k j) (hs : j < cs.size) : MKB (cs.setIfInBounds j (.int .u8 ((k + j) % 256))) k (j + 1) := by
  intro i hi
  by_cases e : i = j
  · subst e
    rw [Array.getElem?_setIfInBounds_self_of_lt hs]
  · rw [Array.getElem?_setIfInBounds_ne (by omega)]
    exact h i (by omega)
theorem only_setB {a w : World} {g : Nat} (h : a.grownBy w (some g)) (i : Nat) (u : Value) : a.grownBy (w.setCell ⟨g, i, none⟩ u) (some g) :=
  ⟨h.os, h.tape, h.output, by simpa [World.setCell] using h.size, fun j hj hne => (Below.heap_setCell w ⟨g, i, none⟩ u j (by
    rintro rfl
    exact hne rfl)).trans (h.block j hj hne)⟩

/-- Whatever row of the call's own it is: the marks are laid, and found again as long as the row is as it was. -/
def MB (w : World) (t base : Nat) (A : Option Addr) (n : Nat) (k : Int) : Prop := n = 0 ∨ ∃ g cur, A = some ⟨g, 0, none⟩ ∧ base ≤ g ∧ Blk w g t cur ∧ MKB cur k n
theorem MB.on {w w' : World} {t base n : Nat} {A : Option Addr} {k : Int} (h : MB w t base A n k) (hb : Below w.heap.size w w') : MB w' t base A n k := by
  rcases h with h | ⟨g, cur, rfl, hg, hk, hp⟩
  · exact .inl h
  · exact .inr ⟨g, cur, rfl, hg, hk.on hb, hp⟩
end Go.Proofs.Ytfdfjmibjnmhpaa.V

namespace Go.Proofs.Ytfdfjmibjnmhpaa.V
open Go.RowKit Go.Proofs.Ytfdfjmibjnmhpaa.B

/-- The cells cs bear the marks k, k+1, .. in the 2n first places. -/
def MK (cs : Array Value) (k : Int) (n : Nat) : Prop :=
  ∀ i, i < n → cs[i * 2]? = some (.int .i64 (k + 2 * i)) ∧ cs[i * 2 + 1]? = some (.int .i64 (k + 2 * i + 1))

theorem MK.step {cs : Array Value} {k : Int} {j : Nat} (h : MK cs k j) (hs : j * 2 + 1 < cs.size) :
    MK ((cs.setIfInBounds (j * 2) (.int .i64 (k + 2 * j))).setIfInBounds (j * 2 + 1) (.int .i64 (k + 2 * j + 1))) k (j + 1) := by
  intro i hi
  by_cases e : i = j
  · subst e
    constructor
    · rw [Array.getElem?_setIfInBounds_ne (by omega), Array.getElem?_setIfInBounds_self_of_lt (by omega)]
    · rw [Array.getElem?_setIfInBounds_self_of_lt (by simp; omega)]
  · have := h i (by omega)
    constructor
    · rw [Array.getElem?_setIfInBounds_ne (by omega), Array.getElem?_setIfInBounds_ne (by omega)]; exact this.1
    · rw [Array.getElem?_setIfInBounds_ne (by omega), Array.getElem?_setIfInBounds_ne (by omega)]; exact this.2

/-- Only block g, and what is new, may have turned. -/
theorem only_set {a w : World} {g : Nat} (h : a.grownBy w (some g)) (i : Nat) (u : Value) : a.grownBy (w.setCell ⟨g, i, none⟩ u) (some g) :=
  ⟨h.os, h.tape, h.output, by simpa [World.setCell] using h.size, fun j hj hne => (Below.heap_setCell w ⟨g, i, none⟩ u j (by
    rintro rfl
    exact hne rfl)).trans (h.block j hj hne)⟩

theorem markNil (A : Option Addr) (c : Nat) (k : Int) (w : World) :
    Calls Try.prog 51 #[.slice A 0 c, .int .i64 k] w fun e w' => e = .returned (.int .i64 k) ∧ w = w' := by
  go_enter Try.func51, Try.ntmps51
  go_wp2
  refine wp_loop_rounds 1 ?_
  rw [rounds_succ]
  go_wp2
  go_ret
  exact ⟨rfl, rfl⟩

theorem heldNil (A : Option Addr) (c : Nat) (k : Int) (w : World) :
    Calls Try.prog 54 #[.slice A 0 c, .int .i64 k] w fun e w' => e = .returned (.int .i64 k) ∧ w = w' := by
  go_enter Try.func54, Try.ntmps54
  go_wp2
  refine wp_loop_rounds 1 ?_
  rw [rounds_succ]
  go_wp2
  go_ret
  exact ⟨rfl, rfl⟩

set_option maxHeartbeats 400000 in
theorem mark_any (g n c : Nat) (t : TypeId) (cs : Array Value) (k : Int) (w : World) (hb : Blk w g t cs) (hs : n * 2 ≤ cs.size) (hn : n ≤ 1048576) (h0 : 0 ≤ k) (h1 : k ≤ 16777216) :
    Calls Try.prog 51 #[.slice (some ⟨g, 0, none⟩) n c, .int .i64 k] w fun e w' =>
      e = .returned (.int .i64 (k + 2 * n)) ∧ ∃ cs', Blk w' g t cs' ∧ cs'.size = cs.size ∧ MK cs' k n ∧ w.grownBy w' (some g) := by
  have HS := Lib.hid hs; clear hs
  go_enter Try.func51, Try.ntmps51
  go_wp2
  go_loopw [1, 5] (fun kk i wr => ∃ (j : Nat) (ds : Array Value), j ≤ n ∧ i = .int .i64 j ∧ kk = .int .i64 (k + 2 * j) ∧ Blk wr g t ds ∧ Hid (ds.size = cs.size) ∧ Hid (MK ds k j) ∧ w.grownBy wr (some g)) (fun _ i _ => n - (intOf i).toNat)
  case atStart => exact ⟨0, cs, Nat.zero_le _, rfl, by simp, hb, rfl, fun i hi => absurd hi (by omega), World.grownBy.refl w _⟩
  case round =>
    obtain ⟨j, ds, hj, rfl, rfl, hblk, hsz, hmk, hgr⟩ := hrel
    by_cases hlt : j < n
    · have hx0 : ∃ y, ds[j * 2]? = some y := ⟨_, Array.getElem?_eq_getElem (by have := hsz.out; have := HS.out; omega)⟩
      have hx1 : ∃ y, ds[j * 2 + 1]? = some y := ⟨_, Array.getElem?_eq_getElem (by have := hsz.out; have := HS.out; omega)⟩
      obtain ⟨y0, hx0⟩ := hx0
      obtain ⟨y1, hx1⟩ := hx1
      have hc0 := (hblk.cell (j * 2)).trans hx0
      have hc1 := (hblk.cell (j * 2 + 1)).trans hx1
      have hf0 := hblk.frozen (j * 2)
      have hf1 := hblk.frozen (j * 2 + 1)
      have HM : Hid (MK ((ds.setIfInBounds (j * 2) (.int .i64 (k + 2 * j))).setIfInBounds (j * 2 + 1) (.int .i64 (k + 2 * j + 1))) k (j + 1)) := MK.step hmk.out (by have := hsz.out; have := HS.out; omega)
      have HZ : Hid (((ds.setIfInBounds (j * 2) (.int .i64 (k + 2 * j))).setIfInBounds (j * 2 + 1) (.int .i64 (k + 2 * j + 1))).size = cs.size) := by rw [Array.size_setIfInBounds, Array.size_setIfInBounds]; exact hsz.out
      clear hx0 hx1 hmk hsz
      go_wp2
      go_roundw
      case rel => exact ⟨j + 1, _, by omega, by go_num, by congr 1; simp; omega, (hblk.set_ _ _).set_ _ _, HZ, HM, only_set (only_set hgr _ _) _ _⟩
      case measure => simp [intOf]; omega
    · have hjn : j = n := by omega
      subst hjn
      go_wp2
      go_ret
      exact ⟨rfl, ds, hblk, hsz.out, hmk.out, hgr⟩
set_option maxHeartbeats 400000 in
theorem held_any (g n c : Nat) (t : TypeId) (cs : Array Value) (k : Int) (w : World) (hb : Blk w g t cs) (hm : MK cs k n) (hn : n ≤ 1048576) (h0 : 0 ≤ k) (h1 : k ≤ 16777216) :
    Calls Try.prog 54 #[.slice (some ⟨g, 0, none⟩) n c, .int .i64 k] w fun e w' => e = .returned (.int .i64 (k + 2 * n)) ∧ w = w' := by
  have HM := Lib.hid hm; clear hm
  go_enter Try.func54, Try.ntmps54
  go_wp2
  go_loop [1, 5] (fun kk i => ∃ (j : Nat), j ≤ n ∧ i = .int .i64 j ∧ kk = .int .i64 (k + 2 * j)) (fun _ i => n - (intOf i).toNat)
  case atStart => exact ⟨0, Nat.zero_le _, rfl, by simp⟩
  case round =>
    obtain ⟨j, hj, rfl, rfl⟩ := hrel
    by_cases hlt : j < n
    · have hc0 := (hb.cell (j * 2)).trans (HM.out j hlt).1
      have hc1 := (hb.cell (j * 2 + 1)).trans (HM.out j hlt).2
      have hne : ∀ i : Int, (i != i) = false := fun i => by simp
      go_wp2
      go_round
      case rel => exact ⟨j + 1, by omega, by go_num, by congr 1; simp; omega⟩
      case measure => simp [intOf]; omega
    · have hjn : j = n := by omega
      subst hjn
      go_wp2
      go_ret
      exact ⟨rfl, rfl⟩
theorem grown_alloc {w w' : World} {o : Obj} {row : Option Nat} (h : (w.alloc o).grownBy w' row) : w.grownBy w' row :=
  ⟨h.os, h.tape, h.output, Nat.le_trans (by simp) h.size, fun i hi hne => (h.block i (by simp; omega) hne).trans (Below.heap_alloc w o i hi)⟩

theorem markMsg_nil (k v x a b m : Int) (A : Option Addr) (c : Nat) (w : World) (h0 : 0 ≤ m) (h1 : m ≤ 16777216) :
    Calls Try.prog 17 #[.agg #[.int .i64 k, .int .i64 v, .int .i64 x, .int .i64 a, .int .i64 b, .slice A 0 c], .int .i64 m] w fun e w' => e = .returned (.int .i64 m) ∧ Below w.heap.size w w' := by
  go_enter Try.func17, Try.ntmps17
  go_wp2_with (go_at_call 51; refine (markNil A c m _).mono ?_; rintro e w1 ⟨rfl, rfl⟩)
  go_ret
  exact ⟨rfl, (Below.refl _ _).alloc (Nat.le_refl _) _⟩
theorem heldMsg_nil (k v x a b m : Int) (A : Option Addr) (c : Nat) (w : World) (h0 : 0 ≤ m) (h1 : m ≤ 16777216) :
    Calls Try.prog 18 #[.agg #[.int .i64 k, .int .i64 v, .int .i64 x, .int .i64 a, .int .i64 b, .slice A 0 c], .int .i64 m] w fun e w' => e = .returned (.int .i64 m) ∧ Below w.heap.size w w' := by
  go_enter Try.func18, Try.ntmps18
  go_wp2_with (go_at_call 54; refine (heldNil A c m _).mono ?_; rintro e w1 ⟨rfl, rfl⟩)
  go_ret
  exact ⟨rfl, (Below.refl _ _).alloc (Nat.le_refl _) _⟩

theorem markMsg_any (k v x a b m : Int) (g n c : Nat) (t : TypeId) (cs : Array Value) (w : World) (hb : Blk w g t cs) (hs : n * 2 ≤ cs.size) (hn : n ≤ 1048576) (h0 : 0 ≤ m) (h1 : m ≤ 16777216) :
    Calls Try.prog 17 #[.agg #[.int .i64 k, .int .i64 v, .int .i64 x, .int .i64 a, .int .i64 b, .slice (some ⟨g, 0, none⟩) n c], .int .i64 m] w fun e w' =>
      e = .returned (.int .i64 (m + 2 * n)) ∧ ∃ cs', Blk w' g t cs' ∧ cs'.size = cs.size ∧ MK cs' m n ∧ w.grownBy w' (some g) := by
  have hm0 := fun O => mark_any g n c t cs m (w.alloc O) (hb.alloc O) hs hn h0 h1
  have HM := Lib.hid hm0; clear hm0 hs
  go_enter Try.func17, Try.ntmps17
  go_wp2_with (go_at_call 51; refine (HM.out _).mono ?_; rintro e w1 ⟨rfl, ds, hd, hsz, hmk, hgr⟩; have HZ := Lib.hid hsz; clear hsz; have HK := Lib.hid hmk; clear hmk)
  go_ret
  exact ⟨rfl, ds, hd, HZ.out, HK.out, grown_alloc hgr⟩
theorem heldMsg_any (k v x a b m : Int) (g n c : Nat) (t : TypeId) (cs : Array Value) (w : World) (hb : Blk w g t cs) (hs : MK cs m n) (hn : n ≤ 1048576) (h0 : 0 ≤ m) (h1 : m ≤ 16777216) :
    Calls Try.prog 18 #[.agg #[.int .i64 k, .int .i64 v, .int .i64 x, .int .i64 a, .int .i64 b, .slice (some ⟨g, 0, none⟩) n c], .int .i64 m] w fun e w' => e = .returned (.int .i64 (m + 2 * n)) ∧ Below w.heap.size w w' := by
  have hm0 := fun O => held_any g n c t cs m (w.alloc O) (hb.alloc O) hs hn h0 h1
  have HM := Lib.hid hm0; clear hm0 hs
  go_enter Try.func18, Try.ntmps18
  go_wp2_with (go_at_call 54; refine (HM.out _).mono ?_; rintro e w1 ⟨rfl, rfl⟩)
  go_ret
  exact ⟨rfl, (Below.refl _ _).alloc (Nat.le_refl _) _⟩
end Go.Proofs.Ytfdfjmibjnmhpaa.V

namespace Go.Proofs.Ytfdfjmibjnmhpaa.B
open Go.RowKit

theorem OB.up {w : World} {t base : Nat} {A : Option Addr} {xs : List Int} (h : OB w t base A xs) (O : Obj) : OB (w.alloc O) t base A xs := h.on ((Below.refl _ _).alloc (Nat.le_refl _) O)
theorem OB.lt {w : World} {t base : Nat} {A : Option Addr} {xs : List Int} (h : OB w t base A xs) : ∀ g, A = some ⟨g, 0, none⟩ → g < w.heap.size := by
  intro g hA
  rcases h with ⟨rfl, _⟩ | ⟨g', cur, rfl, _, hk, _⟩
  · cases hA
  · injection hA with hA
    injection hA with hA
    subst hA
    exact hk.lt
theorem OB.ge {w : World} {t base : Nat} {A : Option Addr} {xs : List Int} (h : OB w t base A xs) : ∀ g, A = some ⟨g, 0, none⟩ → base ≤ g := by
  intro g hA
  rcases h with ⟨rfl, _⟩ | ⟨g', cur, rfl, hb, hk, _⟩
  · cases hA
  · injection hA with hA
    injection hA with hA
    subst hA
    exact hb
theorem OB.far {w w' : World} {t base g : Nat} {A : Option Addr} {xs : List Int} (h : OB w t base A xs) (hgr : w.grownBy w' (some g)) (hne : ∀ g', A = some ⟨g', 0, none⟩ → g' ≠ g) : OB w' t base A xs := by
  rcases h with ⟨rfl, rfl⟩ | ⟨g', cur, rfl, hb, hk, hp⟩
  · exact OB.nil_
  · refine .inr ⟨g', cur, rfl, hb, ?_, hp⟩
    exact (hgr.block g' hk.lt (by have := hne g' rfl; simpa using this)).trans hk
theorem OB.low {w w' : World} {t base Bd : Nat} {A : Option Addr} {xs : List Int} (h : OB w t base A xs) (hb : Below Bd w w') (hl : ∀ g', A = some ⟨g', 0, none⟩ → g' < Bd) : OB w' t base A xs := by
  rcases h with ⟨rfl, rfl⟩ | ⟨g', cur, rfl, hb', hk, hp⟩
  · exact OB.nil_
  · exact .inr ⟨g', cur, rfl, hb', (hb.block g' (hl g' rfl)).trans hk, hp⟩
theorem Blk.farm {w w' : World} {g g' : Nat} {t : TypeId} {cs : Array Value} (h : Blk w g' t cs) (hgr : w.grownBy w' (some g)) (hne : g' ≠ g) : Blk w' g' t cs := (hgr.block g' h.lt (by simpa using hne)).trans h
theorem below_grown {w w' : World} {g base : Nat} (h : w.grownBy w' (some g)) (hg : base ≤ g) (hw : base ≤ w.heap.size) : Below base w w' :=
  ⟨h.os, h.tape, h.output, h.size, fun i hi => h.block i (by omega) (by simp; omega)⟩
end Go.Proofs.Ytfdfjmibjnmhpaa.B

namespace Go.Proofs.Ytfdfjmibjnmhpaa.V
open Go.RowKit Go.Proofs.Ytfdfjmibjnmhpaa.B

def VRes (us : List (Int × Int)) (w : World) (e : Ending) (w' : World) : Prop :=
  ∃ g c, e = .returned (.slice (some ⟨g, 0, none⟩) us.length c) ∧ w'.ownsRow w.heap.size 34 2 (.slice (some ⟨g, 0, none⟩) us.length c) us.length (vcells us) ∧ Below w.heap.size w w'

theorem infoV2 : (Try.prog.info? 34).map (fun i => (i.zero, i.size, i.bytes)) = some (some (.agg #[.int .i64 0, .int .i64 0]), 2, 16) := by kernel_rfl

/-- What stands behind the loop: the place k is found. -/
def At (vs : List (Int × Int)) (a : Int) (k : Nat) : Prop := k ≤ vs.length ∧ (∀ j, j < k → (vs.getD j (0, 0)).1 < a) ∧ (k < vs.length → ¬ (vs.getD k (0, 0)).1 < a)

theorem Rd.take_ {w : World} {Bd : Nat} {A : Option Addr} {vs : List (Int × Int)} (h : Rd w Bd A vs) (k : Nat) (hk : k ≤ vs.length) : Rd w Bd A (vs.take k) := fun hn => by
  rw [List.length_take] at hn
  obtain ⟨b, off, rfl, hb, hc⟩ := h (by omega)
  refine ⟨b, off, rfl, hb, fun i hi => ?_⟩
  rw [List.length_take] at hi
  have e : (vs.take k).getD i (0, 0) = vs.getD i (0, 0) := by
    simp only [List.getD]
    rw [List.getElem?_take_of_lt (by omega)]
  rw [e]
  exact hc i (by omega)
theorem Rd.drop_ {w : World} {Bd b off : Nat} {vs : List (Int × Int)} (h : Rd w Bd (some ⟨b, off, none⟩) vs) (k : Nat) : Rd w Bd (some ⟨b, off + k * 2, none⟩) (vs.drop k) := fun hn => by
  rw [List.length_drop] at hn
  obtain ⟨b', off', e, hb, hc⟩ := h (by omega)
  injection e with e
  injection e with e1 e2
  subst e1 e2
  refine ⟨b, off + k * 2, rfl, hb, fun i hi => ?_⟩
  rw [List.length_drop] at hi
  have e : (vs.drop k).getD i (0, 0) = vs.getD (k + i) (0, 0) := by
    simp only [List.getD]
    rw [List.getElem?_drop]
  have := hc (k + i) (by omega)
  rw [e, show off + k * 2 + i * 2 = off + (k + i) * 2 by omega]
  exact this
/-- What the three appends come to. -/
theorem vres_of {w w' : World} {ov : Value} {nn : Nat} {ys : List Value} {us : List (Int × Int)} (hown : w'.ownsRow w.heap.size 34 2 ov nn ys) (hn : nn = us.length) (hy : ys = vcells us) (hp : 0 < nn) (hB : Below w.heap.size w w') : VRes us w (.returned ov) w' := by
  subst hy hn
  obtain ⟨g, cap, rfl, _, _⟩ := hown.form hp
  exact ⟨g, cap, rfl, hown, hB⟩

end Go.Proofs.Ytfdfjmibjnmhpaa.V

namespace Go.Proofs.Ytfdfjmibjnmhpaa.B
open Go.RowKit

def OV (w : World) (t base : Nat) (A : Option Addr) (us : List (Int × Int)) : Prop := (A = none ∧ us = []) ∨ ∃ g cur, A = some ⟨g, 0, none⟩ ∧ base ≤ g ∧ Blk w g t cur ∧ us.length * 2 ≤ cur.size ∧
  ∀ i, i < us.length → cur[i * 2]? = some (.int .i64 (us.getD i (0, 0)).1) ∧ cur[i * 2 + 1]? = some (.int .i64 (us.getD i (0, 0)).2)
theorem OV.nil_ {w : World} {t base : Nat} : OV w t base none [] := .inl ⟨rfl, rfl⟩
theorem OV.of_own {w : World} {base t c : Nat} {A : Option Addr} {us : List (Int × Int)} (h : w.ownsRow base t 2 (.slice A us.length c) us.length (vcells us)) : OV w t base A us := by
  obtain ⟨hl, h⟩ := h
  rcases h with ⟨h1, h2⟩ | ⟨g, cap, cur, h1, h2, h3, h4, h5, h6, h7⟩
  · injection h1 with h1
    exact .inl ⟨h1, List.eq_nil_of_length_eq_zero h2⟩
  · injection h1 with h1
    refine .inr ⟨g, cur, h1, h2, h3, by omega, fun i hi => ?_⟩
    have hv := vcells_at us i hi
    rw [← h7] at hv
    rw [List.getElem?_take_of_lt (by omega), List.getElem?_take_of_lt (by omega)] at hv
    simpa using hv
theorem OV.rd {w : World} {t base : Nat} {A : Option Addr} {us : List (Int × Int)} (h : OV w t base A us) : Rd w w.heap.size A us := by
  rcases h with ⟨rfl, rfl⟩ | ⟨g, cur, rfl, _, hb, _, hp⟩
  · exact Rd.nil_
  · exact fun _ => ⟨g, 0, rfl, hb.lt, fun i hi => by
      constructor
      · rw [Nat.zero_add, hb.cell]; exact (hp i hi).1
      · rw [Nat.zero_add, hb.cell]; exact (hp i hi).2⟩
theorem OV.on {w w' : World} {t base : Nat} {A : Option Addr} {us : List (Int × Int)} (h : OV w t base A us) (hb : Below w.heap.size w w') : OV w' t base A us := by
  rcases h with ⟨rfl, rfl⟩ | ⟨g, cur, rfl, hg, hk, hp⟩
  · exact OV.nil_
  · exact .inr ⟨g, cur, rfl, hg, hk.on hb, hp⟩
theorem OV.up {w : World} {t base : Nat} {A : Option Addr} {us : List (Int × Int)} (h : OV w t base A us) (O : Obj) : OV (w.alloc O) t base A us := h.on ((Below.refl _ _).alloc (Nat.le_refl _) O)
theorem OV.more {w : World} {t b b' : Nat} {A : Option Addr} {us : List (Int × Int)} (h : OV w t b A us) (hb : b' ≤ b) : OV w t b' A us := by
  rcases h with h | ⟨g, cur, h1, h2, h3⟩
  · exact .inl h
  · exact .inr ⟨g, cur, h1, by omega, h3⟩
theorem OV.lt {w : World} {t base : Nat} {A : Option Addr} {us : List (Int × Int)} (h : OV w t base A us) : ∀ g, A = some ⟨g, 0, none⟩ → g < w.heap.size := by
  intro g hA
  rcases h with ⟨rfl, _⟩ | ⟨g', cur, rfl, _, hk, _⟩
  · cases hA
  · injection hA with hA
    injection hA with hA
    subst hA
    exact hk.lt
theorem OV.ge {w : World} {t base : Nat} {A : Option Addr} {us : List (Int × Int)} (h : OV w t base A us) : ∀ g, A = some ⟨g, 0, none⟩ → base ≤ g := by
  intro g hA
  rcases h with ⟨rfl, _⟩ | ⟨g', cur, rfl, hb, hk, _⟩
  · cases hA
  · injection hA with hA
    injection hA with hA
    subst hA
    exact hb
theorem OV.far {w w' : World} {t base g : Nat} {A : Option Addr} {us : List (Int × Int)} (h : OV w t base A us) (hgr : w.grownBy w' (some g)) (hne : ∀ g', A = some ⟨g', 0, none⟩ → g' ≠ g) : OV w' t base A us := by
  rcases h with ⟨rfl, rfl⟩ | ⟨g', cur, rfl, hb, hk, hp⟩
  · exact OV.nil_
  · exact .inr ⟨g', cur, rfl, hb, hk.farm hgr (hne g' rfl), hp⟩
theorem OV.low {w w' : World} {t base Bd : Nat} {A : Option Addr} {us : List (Int × Int)} (h : OV w t base A us) (hb : Below Bd w w') (hl : ∀ g', A = some ⟨g', 0, none⟩ → g' < Bd) : OV w' t base A us := by
  rcases h with ⟨rfl, rfl⟩ | ⟨g', cur, rfl, hb', hk, hp⟩
  · exact OV.nil_
  · exact .inr ⟨g', cur, rfl, hb', (hb.block g' (hl g' rfl)).trans hk, hp⟩
end Go.Proofs.Ytfdfjmibjnmhpaa.B
namespace Go.Proofs.Ytfdfjmibjnmhpaa.V
open Go.RowKit Go.Proofs.Ytfdfjmibjnmhpaa.B

/-- The marks stand in a row of the call's own. -/
def MV (w : World) (t base : Nat) (A : Option Addr) (n : Nat) (k : Int) : Prop := n = 0 ∨ ∃ g cur, A = some ⟨g, 0, none⟩ ∧ base ≤ g ∧ Blk w g t cur ∧ MK cur k n
theorem MV.on {w w' : World} {t base n : Nat} {A : Option Addr} {k : Int} (h : MV w t base A n k) (hb : Below w.heap.size w w') : MV w' t base A n k := by
  rcases h with h | ⟨g, cur, rfl, hg, hk, hp⟩
  · exact .inl h
  · exact .inr ⟨g, cur, rfl, hg, hk.on hb, hp⟩
theorem markMsg_own (k v x a b m : Int) (A : Option Addr) (c t base : Nat) (us : List (Int × Int)) (w : World) (h : OV w t base A us) (hbw : base ≤ w.heap.size) (hn : us.length ≤ 1048576) (h0 : 0 ≤ m) (h1 : m ≤ 16777216) :
    Calls Try.prog 17 #[.agg #[.int .i64 k, .int .i64 v, .int .i64 x, .int .i64 a, .int .i64 b, .slice A us.length c], .int .i64 m] w fun e w' =>
      e = .returned (.int .i64 (m + 2 * us.length)) ∧ MV w' t base A us.length m ∧ Below base w w' := by
  rcases h with ⟨rfl, rfl⟩ | ⟨g, cur, rfl, hg, hb, hs, hp⟩
  · refine (markMsg_nil k v x a b m none c w h0 h1).mono ?_
    rintro e w' ⟨rfl, hb⟩
    exact ⟨by simp, .inl rfl, hb.mono hbw⟩
  · refine (markMsg_any k v x a b m g us.length c t cur w hb hs hn h0 h1).mono ?_
    rintro e w' ⟨rfl, ds, hd, _, hm, hgr⟩
    exact ⟨rfl, .inr ⟨g, ds, rfl, hg, hd, hm⟩, below_grown hgr hg hbw⟩
theorem heldMsg_own (k v x a b m : Int) (A : Option Addr) (c t base n : Nat) (w : World) (h : MV w t base A n m) (hn : n ≤ 1048576) (h0 : 0 ≤ m) (h1 : m ≤ 16777216) :
    Calls Try.prog 18 #[.agg #[.int .i64 k, .int .i64 v, .int .i64 x, .int .i64 a, .int .i64 b, .slice A n c], .int .i64 m] w fun e w' => e = .returned (.int .i64 (m + 2 * n)) ∧ Below w.heap.size w w' := by
  rcases h with rfl | ⟨g, cur, rfl, _, hb, hm⟩
  · refine (heldMsg_nil k v x a b m A c w h0 h1).mono ?_
    rintro e w' ⟨rfl, hb⟩
    exact ⟨by simp, hb⟩
  · exact heldMsg_any k v x a b m g n c t cur w hb hm hn h0 h1
end Go.Proofs.Ytfdfjmibjnmhpaa.V

namespace Go.Proofs.Ytfdfjmibjnmhpaa.B
open Go.RowKit
section
variable {P : Program} {Q : Exit → Act → World → Prop}
def upd (us : Nat → Value) (i : Nat) (v : Value) : Nat → Value := fun j => if j = i then v else us j
theorem upd_same (us : Nat → Value) (i : Nat) (v : Value) : upd us i v i = v := by simp [upd]
theorem upd_ne {us : Nat → Value} {i j : Nat} {v : Value} (h : j ≠ i) : upd us i v j = us j := by simp [upd, h]
/-- How many have not come up yet. -/
def unl (l : List Bool) : Nat := (l.filter (!·)).length
theorem unl_set : ∀ (l : List Bool) (i : Nat), l[i]? = some false → unl (l.set i true) + 1 = unl l
  | [], i, h => by simp at h
  | b :: l, 0, h => by simp at h; subst h; simp [unl]
  | b :: l, i + 1, h => by
    have := unl_set l i (by simpa using h)
    cases b <;> simp [unl] at this ⊢ <;> omega
theorem unl_zero {l : List Bool} (h : unl l = 0) (i : Nat) : l[i]? ≠ some false := fun e => by
  have := unl_set l i e
  omega
theorem got_false {l : Array Bool} {i : Nat} (h : l.getD i true = false) : l.toList[i]? = some false := by
  rw [Array.getD_eq_getD_getElem?] at h
  rw [Array.getElem?_toList]
  rcases e : l[i]? with _ | b
  · rw [e] at h; simp at h
  · rw [e] at h; simp at h; rw [h]
theorem wpAny_hold {ops : Array Oper} {md : Region.Mode} (I : Array Bool → Act → World → Prop)
    (hstep : ∀ listed a w i, i ∈ Region.ready md ops listed → I listed a w → wpOp P ops Q i (I (listed.setIfInBounds i true)) a w)
    (hend : ∀ listed a w, Region.ready md ops listed = [] → I listed a w → Q .normal a w) :
    ∀ (fuel : Nat) (listed : Array Bool) (a : Act) (w : World), unl listed.toList ≤ fuel → I listed a w → wpAny P md ops Q fuel listed a w
  | 0, listed, a, w, hc, h => by
    have hr : Region.ready md ops listed = [] := by
      rw [List.eq_nil_iff_forall_not_mem]
      intro i hi
      exact unl_zero (by omega) i (got_false (mem_ready.1 hi).1)
    exact ⟨hr, hend listed a w hr h⟩
  | fuel + 1, listed, a, w, hc, h => by
    refine ⟨fun hr => hend listed a w hr h, fun i hi => wpOp_mono (fun a' w' h' => ?_) (hstep listed a w i hi h)⟩
    refine wpAny_hold I hstep hend fuel _ a' w' ?_ h'
    have := unl_set listed.toList i (got_false (mem_ready.1 hi).1)
    rw [Array.toList_setIfInBounds]
    omega
/-- What an operation waits for. -/
def deps (o : Oper) : List Nat := (o.after.toList.filter (Region.binds .any)).map (·.on)
def lowB : Nat → List Oper → Bool
  | _, [] => true
  | k, o :: l => (deps o).all (fun j => decide (j < k)) && lowB (k + 1) l
theorem lowB_at : ∀ {l : List Oper} {k i : Nat} {o : Oper}, lowB k l = true → l[i]? = some o → ∀ j ∈ deps o, j < k + i
  | [], _, _, _, _, h => by simp at h
  | o' :: l, k, 0, o, hB, h => by
    simp only [lowB, Bool.and_eq_true] at hB
    simp at h; subst h
    intro j hj
    have := List.all_eq_true.1 hB.1 j hj
    simpa using this
  | o' :: l, k, i + 1, o, hB, h => by
    simp only [lowB, Bool.and_eq_true] at hB
    intro j hj
    have := lowB_at hB.2 (by simpa using h) j hj
    omega
/-- Operation k waits, in n steps at most, for operation j. -/
def waitsB (ops : List Oper) : Nat → Nat → Nat → Bool
  | 0, k, j => j == k
  | n + 1, k, j => j == k || (match ops[k]? with | some o => (deps o).any fun d => waitsB ops n d j | none => false)
/-- L holds of what an operation waits for. -/
def Shut (ops : List Oper) (L : Nat → Prop) : Prop := ∀ k o, ops[k]? = some o → L k → ∀ j ∈ deps o, L j
theorem Shut.far {ops : List Oper} {L : Nat → Prop} (h : Shut ops L) : ∀ (n k j : Nat), waitsB ops n k j = true → L k → L j
  | 0, k, j, hB, hk => by simp [waitsB] at hB; rw [hB]; exact hk
  | n + 1, k, j, hB, hk => by
    simp only [waitsB, Bool.or_eq_true, beq_iff_eq] at hB
    rcases hB with rfl | hB
    · exact hk
    · rcases e : ops[k]? with _ | o
      · rw [e] at hB; simp at hB
      · rw [e] at hB
        obtain ⟨d, hd, hB⟩ := List.any_eq_true.1 hB
        exact h.far n d j hB (h k o e hk d hd)
/-- One operation: from what holds, whatever has come up, to what holds behind it. -/
def StepOk (P : Program) (Q : Exit → Act → World → Prop) (ops : List Oper) (F : (Nat → Value) → Act) (I : (Nat → Prop) → (Nat → Value) → World → Prop) (i : Nat) (o : Oper) : Prop :=
  ∀ (L : Nat → Prop) (us : Nat → Value) (w : World), ¬ L i → (∀ j ∈ deps o, L j) → Shut ops L → I L us w → ∀ K : Act → World → Prop,
    (∀ a' w' v, a' = (F us).put o.dst v → I (fun j => j = i ∨ L j) (upd us i v) w' → K a' w') →
      if Region.wanted o (yielded ops.toArray (F us).tmps) = true then Oper.wp P o (F us) w K Q else K ((F us).put o.dst undef) w
def Each (S : Nat → Oper → Prop) : Nat → List Oper → Prop
  | _, [] => True
  | k, o :: l => S k o ∧ Each S (k + 1) l
theorem Each.nil {S : Nat → Oper → Prop} {k : Nat} : Each S k [] := trivial
theorem Each.cons {S : Nat → Oper → Prop} {k : Nat} {o : Oper} {l : List Oper} (h : S k o) (h2 : Each S (k + 1) l) : Each S k (o :: l) := ⟨h, h2⟩
theorem Each.at_ {S : Nat → Oper → Prop} : ∀ {l : List Oper} {k i : Nat} {o : Oper}, Each S k l → l[i]? = some o → S (k + i) o
  | [], _, _, _, _, h => by simp at h
  | o' :: l, k, 0, o, hE, h => by simp at h; subst h; exact hE.1
  | o' :: l, k, i + 1, o, hE, h => by
    have := Each.at_ hE.2 (show l[i]? = some o by simpa using h)
    rwa [show k + 1 + i = k + (i + 1) by omega] at this
/-- **A region that draws its order, each operation walked once.** F: the frame, by what the operations have yielded; I: what holds once those of L have come up. -/
theorem wp_region_hold {id : Nat} {a : Act} {w : World} {l : List Oper} (F : (Nat → Value) → Act) (I : (Nat → Prop) → (Nat → Value) → World → Prop) (us0 : Nat → Value)
    (hm : P.follows .mixedOrders = true) (hlow : lowB 0 l = true) (ha : a = F us0)
    (hput : Each (fun i o => ∀ us v, (F us).put o.dst v = F (upd us i v)) 0 l)
    (h0 : I (fun _ => False) us0 w.drew)
    (hop : Each (StepOk P Q l F I) 0 l)
    (hend : ∀ (L : Nat → Prop) us w', (∀ i, i < l.length → L i) → I L us w' → Q .normal (F us) w') : (Code.region id l.toArray true).wp P Q a w := by
  refine wp_region_any hm ?_
  let J : Array Bool → Act → World → Prop := fun listed a' w' => listed.size = l.length ∧ Shut l (fun j => listed.getD j false = true) ∧ ∃ us, a' = F us ∧ I (fun j => listed.getD j false = true) us w'
  have hsz : l.toArray.size = l.length := by simp
  refine wpAny_hold J ?_ ?_ _ _ a { w with drawn := w.drawn + 1 } ?_ ?_
  · rintro listed a' w' i hi ⟨hs, hsh, us, rfl, hI⟩
    obtain ⟨hun, o, ho, hall⟩ := mem_ready.1 hi
    have hol : l[i]? = some o := by simpa using ho
    have hil : i < l.length := by
      rcases Nat.lt_or_ge i l.length with h | h
      · exact h
      · rw [List.getElem?_eq_none h] at hol; cases hol
    have hnL : ¬ listed.getD i false = true := by
      rw [Array.getD_eq_getD_getElem?] at hun ⊢
      rw [Array.getElem?_eq_getElem (by omega)] at hun ⊢
      simp at hun ⊢
      exact hun
    have hdep : ∀ j ∈ deps o, listed.getD j false = true := fun j hj => by
      obtain ⟨e, he, rfl⟩ := List.mem_map.1 hj
      obtain ⟨he1, he2⟩ := List.mem_filter.1 he
      exact hall e (by simpa using he1) he2
    have hset : ∀ j, (listed.setIfInBounds i true).getD j false = true ↔ (j = i ∨ listed.getD j false = true) := fun j => by
      rw [Array.getD_eq_getD_getElem?, Array.getD_eq_getD_getElem?]
      by_cases e : j = i
      · subst e
        rw [Array.getElem?_setIfInBounds_self_of_lt (by omega)]
        simp
      · rw [Array.getElem?_setIfInBounds_ne (Ne.symm e)]
        simp [e]
    have hfun : (fun j => (listed.setIfInBounds i true).getD j false = true) = fun j => j = i ∨ listed.getD j false = true := funext fun j => propext (hset j)
    have h1 := Each.at_ hop hol
    rw [Nat.zero_add] at h1
    have hp := Each.at_ hput hol
    rw [Nat.zero_add] at hp
    refine wpOp_step ho fun K hK => h1 _ us w' hnL hdep hsh hI K fun a'' w'' v ha'' hI' => hK _ _ ⟨by simpa using hs, ?_, upd us i v, ?_, ?_⟩
    · intro k ok hk hLk j hj
      rw [hset] at hLk ⊢
      rcases hLk with rfl | hLk
      · rw [hol] at hk; injection hk with hk; subst hk
        exact .inr (hdep j hj)
      · exact .inr (hsh k ok hk hLk j hj)
    · rw [ha'', hp]
    · rw [hfun]; exact hI'
  · rintro listed a' w' hr ⟨hs, hsh, us, rfl, hI⟩
    refine hend _ us w' (fun i => ?_) hI
    induction i using Nat.strongRecOn with
    | _ i ih =>
      intro hi
      rcases hg : listed.getD i false with _ | _
      · exfalso
        have ho : l[i]? = some l[i] := List.getElem?_eq_getElem hi
        have hun : listed.getD i true = false := by
          rw [Array.getD_eq_getD_getElem?] at hg ⊢
          rw [Array.getElem?_eq_getElem (by omega)] at hg ⊢
          simp at hg ⊢
          exact hg
        have : i ∈ Region.ready .any l.toArray listed := mem_ready.2 ⟨hun, l[i], by simp, fun e he hb => by
          have hd : e.on ∈ deps l[i] := List.mem_map.2 ⟨e, List.mem_filter.2 ⟨by simpa using he, hb⟩, rfl⟩
          have hlt := lowB_at hlow ho e.on hd
          exact ih e.on (by omega) (by omega)⟩
        rw [hr] at this
        simp at this
      · rfl
  · have : ∀ n, unl (List.replicate n false) = n := fun n => by
      induction n with
      | zero => rfl
      | succ n ih => simp [unl, List.replicate_succ] at ih ⊢
    rw [Array.toList_replicate, this]
    exact Nat.le_refl _
  · refine ⟨by simp, fun k o hk hL => ?_, us0, ha, ?_⟩
    · replace hL : (Array.replicate l.toArray.size false).getD k false = true := hL
      rw [Array.getD_eq_getD_getElem?] at hL
      rcases e : (Array.replicate l.toArray.size false)[k]? with _ | b
      · rw [e] at hL; simp at hL
      · rw [e] at hL; simp at hL; subst hL
        rw [Array.getElem?_replicate] at e
        split at e <;> simp at e
    · have : (fun j => (Array.replicate l.toArray.size false).getD j false = true) = fun _ => False := funext fun j => propext ⟨fun h => by
        rw [Array.getD_eq_getD_getElem?, Array.getElem?_replicate] at h
        split at h <;> simp at h, False.elim⟩
      rw [this]; exact h0
end
end Go.Proofs.Ytfdfjmibjnmhpaa.B

namespace Go.Proofs.Ytfdfjmibjnmhpaa.B
open Go.RowKit
section
variable {P : Program} {Q : Exit → Act → World → Prop}
/-- The frame once the operations of l have yielded us. -/
def putL : List Oper → (Nat → Value) → Nat → Act → Act
  | [], _, _, a => a
  | o :: l, us, k, a => putL l us (k + 1) (a.put o.dst (us k))
/-- One operation: from what those that it waits for have yielded, to what it yields. -/
def GrowOk (P : Program) (ops : List Oper) (F : (Nat → Value) → Act) (V : Nat → Value → World → Prop) (w0 : World) (i : Nat) (o : Oper) : Prop :=
  ∀ (us : Nat → Value) (w : World), Below w0.heap.size w0 w → (∀ j ∈ deps o, V j (us j) w) → ∀ (Q : Exit → Act → World → Prop) (K : Act → World → Prop),
    (∀ a' w' v, a' = (F us).put o.dst v → Below w.heap.size w w' → V i v w' → K a' w') →
      if Region.wanted o (yielded ops.toArray (F us).tmps) = true then Oper.wp P o (F us) w K Q else K ((F us).put o.dst undef) w
theorem Each.imp {S R : Nat → Oper → Prop} (h : ∀ k o, S k o → R k o) : ∀ {l : List Oper} {k : Nat}, Each S k l → Each R k l
  | [], _, _ => trivial
  | _ :: _, _, hE => ⟨h _ _ hE.1, Each.imp h hE.2⟩
theorem put_comm (a : Act) (d : Option Tmp) (t : Tmp) (u v : Value) (h : d ≠ some t) : (a.put d u).put (some t) v = (a.put (some t) v).put d u := by
  cases d with
  | none => rfl
  | some s =>
    have hne : s ≠ t := fun e => h (by rw [e])
    simp only [Act.put]
    rw [Array.setIfInBounds_comm _ _ hne]
theorem put_put (a : Act) (d : Option Tmp) (u v : Value) : (a.put d u).put d v = a.put d v := by
  cases d with
  | none => rfl
  | some s => simp [Act.put, Array.setIfInBounds_setIfInBounds]
/-- What the slot of an operation holds. -/
def cur (a : Act) (o : Oper) : Value := match o.dst with | some t => a.tmps.getD t undef | none => undef
theorem put_cur (a : Act) (o : Oper) : a.put o.dst (cur a o) = a := by
  unfold cur
  cases h : o.dst with
  | none => rfl
  | some t =>
    have : a.tmps.setIfInBounds t (a.tmps.getD t undef) = a.tmps := by
      apply Array.ext_getElem?
      intro i
      rw [Array.getElem?_setIfInBounds]
      split
      · rename_i e; subst e
        split
        · rename_i hlt
          first | (rw [Array.getElem?_eq_getElem hlt]; rfl) | (rw [Array.getD_eq_getD_getElem?, Array.getElem?_eq_getElem hlt]; rfl)
        · rename_i hlt
          rw [Array.getElem?_eq_none (by omega)]
      · rfl
    simp only [Act.put, this]
theorem putL_cur : ∀ (l : List Oper) (us : Nat → Value) (k : Nat) (a : Act), (∀ i o, l[i]? = some o → us (k + i) = cur a o) → putL l us k a = a
  | [], _, _, _, _ => rfl
  | o :: l, us, k, a, h => by
    have h0 := h 0 o rfl
    rw [Nat.add_zero] at h0
    rw [putL, h0, put_cur]
    exact putL_cur l us (k + 1) a fun i o' ho => by
      have := h (i + 1) o' (by simpa using ho)
      rwa [show k + 1 + i = k + (i + 1) by omega]
/-- No two write one slot. -/
def dstB : List Oper → Bool
  | [] => true
  | o :: l => (match o.dst with | none => true | some t => l.all fun o' => o'.dst != some t) && dstB l
theorem putL_put : ∀ (l : List Oper) (us : Nat → Value) (k : Nat) (a : Act) (t : Tmp) (v : Value), (∀ o ∈ l, o.dst ≠ some t) → (putL l us k a).put (some t) v = putL l us k (a.put (some t) v)
  | [], _, _, _, _, _, _ => rfl
  | o :: l, us, k, a, t, v, h => by
    rw [putL, putL_put l us (k + 1) _ t v (fun o' ho => h o' (List.mem_cons_of_mem _ ho)), put_comm _ _ _ _ _ (h o List.mem_cons_self)]
    rfl
theorem putL_upd : ∀ (l : List Oper) (us : Nat → Value) (k i : Nat) (v : Value) (a : Act), i < k → putL l (upd us i v) k a = putL l us k a
  | [], _, _, _, _, _, _ => rfl
  | o :: l, us, k, i, v, a, h => by
    rw [putL, putL, upd_ne (by omega), putL_upd l us (k + 1) i v _ (by omega)]
theorem putL_at : ∀ (l : List Oper) (us : Nat → Value) (k i : Nat) (v : Value) (a : Act) (o : Oper), dstB l = true → l[i]? = some o → (putL l us k a).put o.dst v = putL l (upd us (k + i) v) k a
  | [], _, _, _, _, _, _, _, h => by simp at h
  | o' :: l, us, k, 0, v, a, o, hd, h => by
    simp at h
    subst h
    simp only [dstB, Bool.and_eq_true] at hd
    show (putL l us (k + 1) (a.put o'.dst (us k))).put o'.dst v = putL l (upd us k v) (k + 1) (a.put o'.dst (upd us k v k))
    rw [upd_same, putL_upd l us (k + 1) k v _ (by omega)]
    cases hdst : o'.dst with
    | none => rfl
    | some t =>
      rw [hdst] at hd
      rw [putL_put l us (k + 1) _ t v (fun o' ho => by
        have := List.all_eq_true.1 hd.1 o' ho
        simpa using this), put_put]
  | o' :: l, us, k, i + 1, v, a, o, hd, h => by
    simp only [dstB, Bool.and_eq_true] at hd
    rw [putL, putL, upd_ne (by omega), putL_at l us (k + 1) i v _ o hd.2 (by simpa using h), show k + 1 + i = k + (i + 1) by omega]
theorem Each.of_at {S : Nat → Oper → Prop} : ∀ {l : List Oper} {k : Nat}, (∀ i o, l[i]? = some o → S (k + i) o) → Each S k l
  | [], _, _ => trivial
  | o :: l, k, h => ⟨by have := h 0 o rfl; rwa [Nat.add_zero] at this, Each.of_at fun i o' ho => by
    have := h (i + 1) o' (by simpa using ho)
    rwa [show k + 1 + i = k + (i + 1) by omega]⟩
/-- **A region that draws its order and only adds memory: each operation walked once.** V: what operation j yields, known at whatever world comes after; F: the frame, by what has been yielded. -/
theorem wp_region_grow {id : Nat} {a : Act} {w : World} {l : List Oper} (F : (Nat → Value) → Act) (hF : ∀ us, putL l us 0 a = F us) (V : Nat → Value → World → Prop)
    (hm : P.follows .mixedOrders = true) (hlow : lowB 0 l = true) (hd : dstB l = true)
    (hV : ∀ j u w1 w2, V j u w1 → Below w1.heap.size w1 w2 → V j u w2)
    (hop : Each (GrowOk P l F V w) 0 l)
    (hend : ∀ us w', (∀ i, i < l.length → V i (us i) w') → Below w.heap.size w w' → Q .normal (F us) w') : (Code.region id l.toArray true).wp P Q a w := by
  obtain rfl : (fun us => putL l us 0 a) = F := funext hF
  refine wp_region_hold (fun us => putL l us 0 a) (fun L us wx => Below w.heap.size w wx ∧ ∀ j, L j → V j (us j) wx) (fun i => match l[i]? with | some o => cur a o | none => undef) hm hlow ?_ ?_ ⟨(Below.refl _ _).drew, fun _ h => h.elim⟩ (hop.imp fun i o h L us wx hnL hdep _ hI K hK => ?_) (fun L us w' hL hI => hend us w' (fun i hi => hI.2 i (hL i hi)) hI.1)
  · exact (putL_cur l _ 0 a fun i o ho => by rw [Nat.zero_add, ho]).symm
  · exact Each.of_at fun i o ho us v => by
      have := putL_at l us 0 i v a o hd ho
      rwa [Nat.zero_add] at this ⊢
  refine h us wx hI.1 (fun j hj => hI.2 j (hdep j hj)) Q K fun a' w' v ha hb hv => hK a' w' v ha ⟨hI.1.trans (hb.mono hI.1.size), fun j hj => ?_⟩
  by_cases e : j = i
  · subst e; rw [upd_same]; exact hv
  · rw [upd_ne e]; exact hV j _ _ _ (hI.2 j (hj.resolve_left e)) hb
end
end Go.Proofs.Ytfdfjmibjnmhpaa.B

namespace Go.Proofs.Ytfdfjmibjnmhpaa.B
open Go.RowKit
section
variable {P : Program} {Q : Exit → Act → World → Prop}
/-- The last operation: from what all the others have yielded. -/
def LastOk (P : Program) (ops : List Oper) (F : (Nat → Value) → Act) (V : Nat → Value → World → Prop) (R : (Nat → Value) → World → Prop) (w0 : World) (n : Nat) (o : Oper) : Prop :=
  ∀ (us : Nat → Value) (w : World), Below w0.heap.size w0 w → (∀ j, j < n → V j (us j) w) → ∀ (Q : Exit → Act → World → Prop) (K : Act → World → Prop),
    (∀ a' w' v, a' = (F us).put o.dst v → R (upd us n v) w' → K a' w') →
      if Region.wanted o (yielded ops.toArray (F us).tmps) = true then Oper.wp P o (F us) w K Q else K ((F us).put o.dst undef) w
def FinOk (P : Program) (ops : List Oper) (F : (Nat → Value) → Act) (V : Nat → Value → World → Prop) (R : (Nat → Value) → World → Prop) (w0 : World) (n : Nat) (i : Nat) (o : Oper) : Prop :=
  (i ≠ n → GrowOk P ops F V w0 i o) ∧ (i = n → LastOk P ops F V R w0 n o)
theorem wp_region_fin {id : Nat} {a : Act} {w : World} {l : List Oper} (F : (Nat → Value) → Act) (hF : ∀ us, putL l us 0 a = F us) (V : Nat → Value → World → Prop) (R : (Nat → Value) → World → Prop) (n : Nat)
    (hm : P.follows .mixedOrders = true) (hlow : lowB 0 l = true) (hd : dstB l = true) (hn : l.length = n + 1) (hw : (List.range n).all (fun j => waitsB l n n j) = true)
    (hV : ∀ j u w1 w2, V j u w1 → Below w1.heap.size w1 w2 → V j u w2)
    (hop : Each (FinOk P l F V R w n) 0 l)
    (hend : ∀ us w', R us w' → Q .normal (F us) w') : (Code.region id l.toArray true).wp P Q a w := by
  obtain rfl : (fun us => putL l us 0 a) = F := funext hF
  refine wp_region_hold (fun us => putL l us 0 a) (fun L us wx => (L n → R us wx) ∧ (¬ L n → Below w.heap.size w wx ∧ ∀ j, L j → V j (us j) wx)) (fun i => match l[i]? with | some o => cur a o | none => undef) hm hlow ?_ ?_ ⟨fun h => h.elim, fun _ => ⟨(Below.refl _ _).drew, fun _ h => h.elim⟩⟩ (Each.of_at fun i o ho L us wx hnL hdep hsh hI K hK => ?_) (fun L us w' hL hI => hend us w' (hI.1 (hL n (by omega))))
  · exact (putL_cur l _ 0 a fun i o ho => by rw [Nat.zero_add, ho]).symm
  · exact Each.of_at fun i o ho us v => by
      have := putL_at l us 0 i v a o hd ho
      rwa [Nat.zero_add] at this ⊢
  rw [Nat.zero_add] at hnL hK
  have h := Each.at_ hop ho
  rw [Nat.zero_add] at h
  by_cases hi : i = n
  · have hN : ¬ L n := by rw [← hi]; exact hnL
    obtain ⟨hB, hv⟩ := hI.2 hN
    refine h.2 hi us wx hB (fun j hj => hv j ?_) Q K fun a' w' v ha hr => hK a' w' v ha ⟨fun _ => by rw [hi]; exact hr, fun hh => absurd (.inl hi.symm) hh⟩
    have hwj := List.all_eq_true.1 hw j (List.mem_range.2 hj)
    cases n with
    | zero => omega
    | succ m =>
      simp only [waitsB, Bool.or_eq_true, beq_iff_eq] at hwj
      rcases hwj with e | hwj
      · omega
      · rcases e : l[m + 1]? with _ | o'
        · rw [e] at hwj; simp at hwj
        · rw [e] at hwj
          obtain ⟨d, hd2, hB2⟩ := List.any_eq_true.1 hwj
          have e2 : o = o' := by rw [hi, e] at ho; exact (Option.some.inj ho).symm
          exact hsh.far m d j hB2 (hdep d (by rw [e2]; exact hd2))
  · have hN : ¬ (i = n) := hi
    by_cases hLn : L n
    · exfalso
      have hil : i < l.length := (List.getElem?_eq_some_iff.1 ho).1
      exact hnL (hsh.far n n i (List.all_eq_true.1 hw i (List.mem_range.2 (by omega))) hLn)
    · obtain ⟨hB, hv⟩ := hI.2 hLn
      refine h.1 hi us wx hB (fun j hj => hv j (hdep j hj)) Q K fun a' w' v ha hb hvv => hK a' w' v ha ⟨fun hh => absurd (hh.resolve_left (Ne.symm hi)) hLn, fun _ => ⟨hB.trans (hb.mono hB.size), fun j hj => ?_⟩⟩
      by_cases e : j = i
      · subst e; rw [upd_same]; exact hvv
      · rw [upd_ne e]; exact hV j _ _ _ (hv j (hj.resolve_left e)) hb
end
end Go.Proofs.Ytfdfjmibjnmhpaa.B

namespace Go.Proofs.Ytfdfjmibjnmhpaa.V
open Go.RowKit Go.Proofs.Ytfdfjmibjnmhpaa.B
theorem infoVt : (Try.prog.info? 34).map (fun i => (i.zero, i.size, i.bytes)) = some (some (.agg #[.int .i64 0, .int .i64 0]), 2, 16) := by kernel_rfl
theorem Blk.own9 {w w' : World} {g : Nat} {t : TypeId} {cs : Array Value} {row : Option Nat} (h : Blk w g t cs) (hgr : w.grownBy w' row) (hne : row ≠ some g) : Blk w' g t cs := (hgr.block g h.lt (fun e => hne e.symm)).trans h
theorem form8 {w : World} {base e size n : Nat} {v : Value} {xs : List Value} (h : w.ownsRow base e size v n xs) : ∃ A c, v = .slice A n c := by
  obtain ⟨_, ⟨rfl, rfl⟩ | ⟨g, cap, cur, rfl, _⟩⟩ := h
  · exact ⟨_, _, rfl⟩
  · exact ⟨_, _, rfl⟩
/-- Votes, in memory of the call's own. -/
def VR (us : List (Int × Int)) (w : World) (e : Ending) (w' : World) : Prop := ∃ A d, e = .returned (.slice A us.length d) ∧ OV w' 34 w.heap.size A us ∧ Below w.heap.size w w'
theorem vr_of {us : List (Int × Int)} {w w' : World} {v : Value} {n : Nat} {xs : List Value} (h : w'.ownsRow w.heap.size 34 2 v n xs) (hn : n = us.length) (hx : xs = vcells us) (hB : Below w.heap.size w w') : VR us w (.returned v) w' := by
  subst hn hx
  obtain ⟨A, d, rfl⟩ := form8 h
  exact ⟨A, d, rfl, OV.of_own h, hB⟩
set_option maxHeartbeats 1600000 in
theorem copiedVotes_any (A : Option Addr) (c : Nat) (vs : List (Int × Int)) (w : World) (hr : Rd w w.heap.size A vs) (hn : vs.length ≤ 1048576) :
    Calls Try.prog 92 #[.slice A vs.length c] w (VR vs w) := by
  obtain ⟨i0, hi0, hz0, hz1, hz2⟩ := info_parts infoVt
  have HR := Lib.hid hr.reads; have H1 := Lib.hid (vcells_one vs)
  obtain ⟨n, en⟩ : ∃ n, vs.length = n := ⟨_, rfl⟩
  rw [en] at hn HR ⊢
  have EN := Lib.hid en; clear en hr
  go_enter Try.func92, Try.ntmps92
  go_wp2_with (at_builtin; refine wpList_append_any _ rfl (.const (.slice none 0 0)) (.tmp 3) 33 rfl w.heap.size 34 i0 _ 2 16 Try.underlying33 hi0 hz0 hz1 hz2 rfl (by omega) (.slice none 0 0) 0 [] rfl (World.ownsRow_nil _ _ _ _) w.heap.size A n c (vcells vs) rfl HR.out H1.out (by simp only [maxLen]; omega) (by omega) (by omega) ?_; intro v1 w1 hown1 hgr1 hat1)
  go_ret
  exact vr_of hown1 (by rw [EN.out]; omega) rfl ((Below.refl _ _).grown hgr1 (Nat.le_refl _) (fun j hj => by first | (injection hj) | simp at hj))
def MR (k v x a b : Int) (us : List (Int × Int)) (w : World) (e : Ending) (w' : World) : Prop := ∃ A d, e = .returned (.agg #[.int .i64 k, .int .i64 v, .int .i64 x, .int .i64 a, .int .i64 b, .slice A us.length d]) ∧ OV w' 34 w.heap.size A us ∧ Below w.heap.size w w'
def TV (base p : Nat) (vw lv lx : Int) (A : Option Addr) (n c : Nat) (us : List (Int × Int)) : Nat → Value → World → Prop
  | 0, u, _ => u = .int .i64 vw
  | 1, u, _ => u = .pointer (some ⟨p, 6, none⟩)
  | 2, u, _ => u = .agg #[.int .i64 lv, .int .i64 lx]
  | 3, u, _ => u = .pointer (some ⟨p, 5, none⟩)
  | 4, u, _ => u = .slice A n c
  | 5, u, w => ∃ B d, u = .slice B n d ∧ OV w 34 base B us
  | 6, u, w => ∃ B d, u = .agg #[.int .i64 3, .int .i64 vw, .int .i64 0, .int .i64 lv, .int .i64 lx, .slice B n d] ∧ OV w 34 base B us
  | _, _, _ => True
theorem TV.keep {base p : Nat} {vw lv lx : Int} {A : Option Addr} {n c : Nat} {us : List (Int × Int)} : ∀ j u w1 w2, TV base p vw lv lx A n c us j u w1 → Below w1.heap.size w1 w2 → TV base p vw lv lx A n c us j u w2 := by
  intro j u w1 w2 h hb
  match j, h with
  | 0, h => exact h
  | 1, h => exact h
  | 2, h => exact h
  | 3, h => exact h
  | 4, h => exact h
  | 5, h => obtain ⟨B, d, e, ho⟩ := h; exact ⟨B, d, e, ho.on hb⟩
  | 6, h => obtain ⟨B, d, e, ho⟩ := h; exact ⟨B, d, e, ho.on hb⟩
  | _ + 7, _ => trivial
def TR (base o : Nat) (w0 : World) (vw lv lx : Int) (n : Nat) (us : List (Int × Int)) (_ : Nat → Value) (w' : World) : Prop :=
  ∃ B d, Blk w' o 45 #[.int .i64 3, .int .i64 vw, .int .i64 0, .int .i64 lv, .int .i64 lx, .slice B n d] ∧ OV w' 34 base B us ∧ Below base w0 w'
theorem OV.set6 {wx : World} {base o t : Nat} {B : Option Addr} {us : List (Int × Int)} {cs : Array Value} {v0 v1 v2 v3 v4 v5 : Value} (h : OV wx 34 base B us) (hk : Blk wx o t cs) (ht : t ≠ 34) :
    OV ((((((wx.setCell ⟨o, 0, none⟩ v0).setCell ⟨o, 1, none⟩ v1).setCell ⟨o, 2, none⟩ v2).setCell ⟨o, 3, none⟩ v3).setCell ⟨o, 4, none⟩ v4).setCell ⟨o, 5, none⟩ v5) 34 base B us := by
  rcases h with h | ⟨g, cur, rfl, hg, hb, hp⟩
  · exact .inl h
  · have hne : g ≠ o := fun e => by
      subst e
      have h1 := hb.symm.trans hk
      injection h1 with h1
      injection h1 with _ h1
      exact ht h1.symm
    exact .inr ⟨g, cur, rfl, hg, (((((hb.far hne _).far hne _).far hne _).far hne _).far hne _).far hne _, hp⟩
theorem OV.set_ {w : World} {t base : Nat} {A : Option Addr} {us : List (Int × Int)} {p : Addr} (h : OV w t base A us) (hp : p.block < base) (v : Value) : OV (w.setCell p v) t base A us := by
  rcases h with h | ⟨g, cur, rfl, hg, hb, hq⟩
  · exact .inl h
  · exact .inr ⟨g, cur, rfl, hg, hb.far (by omega) _, hq⟩
set_option maxHeartbeats 3200000 in
theorem reportOf_any (q : Rq) (vw : Int) (w : World) (hr : RdQ w w.heap.size q) (hf : FewQ q) :
    Calls Try.prog 50 #[q.agg, .int .i64 vw] w (MR 3 vw 0 q.lv q.lx q.voted w) := by
  obtain ⟨n, id, own, view, left, voted, lv, lx, dn, pr, vo, re, ds, hs, Av, Ap, Ao, Ar, Ad, Ah, cv, cp, co, cr, cd, ch⟩ := q
  obtain ⟨rv, rp, ro, rr, rd, rh⟩ := hr
  obtain ⟨fv, fp, fo, fr, fd, fh⟩ := hf
  simp only [Rq.agg, Rq.cells] at *
  have HV := Lib.hid (fun (W : World) (h : Below w.heap.size w W) => copiedVotes_any Av cv voted W ((rv.below h).more h.size) fv)
  obtain ⟨lv0, elv0⟩ : ∃ m, voted.length = m := ⟨_, rfl⟩
  obtain ⟨lp0, elp0⟩ : ∃ m, pr.length = m := ⟨_, rfl⟩
  obtain ⟨lo0, elo0⟩ : ∃ m, vo.length = m := ⟨_, rfl⟩
  obtain ⟨lr0, elr0⟩ : ∃ m, re.length = m := ⟨_, rfl⟩
  obtain ⟨ld0, eld0⟩ : ∃ m, ds.length = m := ⟨_, rfl⟩
  obtain ⟨lh0, elh0⟩ : ∃ m, hs.length = m := ⟨_, rfl⟩
  simp only [elv0, elp0, elo0, elr0, eld0, elh0] at HV ⊢
  have ELV := Lib.hid elv0
  clear elv0 elp0 elo0 elr0 eld0 elh0 rv rp ro rr rd rh fv fp fo fr fd fh
  have ka := (Blk.new w 40 #[.int .i64 n, .int .i64 id, .int .i64 own, .int .i64 view, .int .i64 left, .slice Av lv0 cv, .int .i64 lv, .int .i64 lx, .int .i64 dn, .slice Ap lp0 cp, .slice Ao lo0 co, .slice Ar lr0 cr, .slice Ad ld0 cd, .slice Ah lh0 ch]).alloc (.cells #[.int .i64 0, .int .i64 0, .int .i64 0, .int .i64 0, .int .i64 0, .slice none 0 0] 45)
  have km := Blk.new (w.alloc (.cells #[.int .i64 n, .int .i64 id, .int .i64 own, .int .i64 view, .int .i64 left, .slice Av lv0 cv, .int .i64 lv, .int .i64 lx, .int .i64 dn, .slice Ap lp0 cp, .slice Ao lo0 co, .slice Ar lr0 cr, .slice Ad ld0 cd, .slice Ah lh0 ch] 40)) 45 #[.int .i64 0, .int .i64 0, .int .i64 0, .int .i64 0, .int .i64 0, .slice none 0 0]
  simp only [World.size_alloc] at km
  have hB := up_ (up_ (Below.refl w.heap.size w) (.cells #[.int .i64 n, .int .i64 id, .int .i64 own, .int .i64 view, .int .i64 left, .slice Av lv0 cv, .int .i64 lv, .int .i64 lx, .int .i64 dn, .slice Ap lp0 cp, .slice Ao lo0 co, .slice Ar lr0 cr, .slice Ad ld0 cd, .slice Ah lh0 ch] 40)) (.cells #[.int .i64 0, .int .i64 0, .int .i64 0, .int .i64 0, .int .i64 0, .slice none 0 0] 45)
  have ra := ka.rule
  go_enter Try.func50, Try.ntmps50
  go_wp2_with fail
  generalize (w.alloc (.cells #[.int .i64 n, .int .i64 id, .int .i64 own, .int .i64 view, .int .i64 left, .slice Av lv0 cv, .int .i64 lv, .int .i64 lx, .int .i64 dn, .slice Ap lp0 cp, .slice Ao lo0 co, .slice Ar lr0 cr, .slice Ad ld0 cd, .slice Ah lh0 ch] 40)).alloc (.cells #[.int .i64 0, .int .i64 0, .int .i64 0, .int .i64 0, .int .i64 0, .slice none 0 0] 45) = w1 at *
  have KP := Lib.hid ka; have KM := Lib.hid km; have HB := Lib.hid hB
  clear ra ka km hB
  refine wp_region_fin ?_ ?_ (TV w.heap.size w.heap.size vw lv lx Av lv0 cv voted) (TR w.heap.size (w.heap.size + 1) w vw lv lx lv0 voted) 7 (by kernel_rfl) (by kernel_rfl) (by kernel_rfl) (by kernel_rfl) (by kernel_rfl) TV.keep ?_ ?_
  rotate_left
  · intro us; simp only [putL]; go_simp; exact rfl
  · refine Each.cons ?_ (Each.cons ?_ (Each.cons ?_ (Each.cons ?_ (Each.cons ?_ (Each.cons ?_ (Each.cons ?_ (Each.cons ?_ (Each.nil))))))))
    · refine ⟨fun _ => ?_, fun h => absurd h (by decide)⟩
      intro us wx hW hD Q K hK
      go_simp
      exact hK _ _ (.int .i64 vw) (by go_simp) (Below.refl _ _) rfl
    · refine ⟨fun _ => ?_, fun h => absurd h (by decide)⟩
      intro us wx hW hD Q K hK
      go_simp
      exact hK _ _ (.pointer (some ⟨w.heap.size, 6, none⟩)) (by go_simp) (Below.refl _ _) rfl
    · refine ⟨fun _ => ?_, fun h => absurd h (by decide)⟩
      intro us wx hW hD Q K hK
      have e1 : us 1 = _ := hD 1 (by decide)
      have rp := (KP.out.below hW KP.out.lt).rule
      go_simp
      exact hK _ _ (.agg #[.int .i64 lv, .int .i64 lx]) (by go_simp) (Below.refl _ _) rfl
    · refine ⟨fun _ => ?_, fun h => absurd h (by decide)⟩
      intro us wx hW hD Q K hK
      go_simp
      exact hK _ _ (.pointer (some ⟨w.heap.size, 5, none⟩)) (by go_simp) (Below.refl _ _) rfl
    · refine ⟨fun _ => ?_, fun h => absurd h (by decide)⟩
      intro us wx hW hD Q K hK
      have e3 : us 3 = _ := hD 3 (by decide)
      have rp := (KP.out.below hW KP.out.lt).rule
      go_simp
      exact hK _ _ (.slice Av lv0 cv) (by go_simp) (Below.refl _ _) rfl
    · refine ⟨fun _ => ?_, fun h => absurd h (by decide)⟩
      intro us wx hW hD Q K hK
      have e4 : us 4 = _ := hD 4 (by decide)
      go_simp
      go_at_call 92
      refine (HV.out wx (on_ HB.out hW)).mono ?_
      rintro e w5 ⟨B, d, rfl, ho, hb⟩
      rw [ELV.out]
      exact hK _ _ (.slice B lv0 d) (by go_simp) hb ⟨B, d, rfl, ho.more (by have := hW.size; have := HB.out.size; omega)⟩
    · refine ⟨fun _ => ?_, fun h => absurd h (by decide)⟩
      intro us wx hW hD Q K hK
      have e0 : us 0 = _ := hD 0 (by decide)
      have e2 : us 2 = _ := hD 2 (by decide)
      obtain ⟨B, d, e5, ho⟩ := hD 5 (by decide)
      go_simp
      exact hK _ _ (.agg #[.int .i64 3, .int .i64 vw, .int .i64 0, .int .i64 lv, .int .i64 lx, .slice B lv0 d]) (by go_simp) (Below.refl _ _) ⟨B, d, rfl, ho⟩
    · refine ⟨fun h => absurd rfl h, fun _ => ?_⟩
      intro us wx hW hD Q K hK
      obtain ⟨B, d, e6, ho⟩ := hD 6 (by decide)
      have km := KM.out.below hW KM.out.lt
      have ro := km.rule
      have fo := fun i => km.frozen i
      go_simp
      have hb := on_ HB.out hW
      have hl : w.heap.size ≤ w.heap.size + 1 := by omega
      exact hK _ _ undef (by go_simp) ⟨B, d, (((((km.set_ 0 _).set_ 1 _).set_ 2 _).set_ 3 _).set_ 4 _).set_ 5 _, OV.set6 ho km (by decide), Below.setCell (Below.setCell (Below.setCell (Below.setCell (Below.setCell (Below.setCell hb hl _) hl _) hl _) hl _) hl _) hl _⟩
  intro us' w3 hR
  obtain ⟨B, d, km, ho, hb3⟩ := hR
  generalize us' 0 = z0; generalize us' 1 = z1; generalize us' 2 = z2; generalize us' 3 = z3; generalize us' 4 = z4; generalize us' 5 = z5; generalize us' 6 = z6
  clear us'
  have rm := km.rule
  go_wp2
  refine bodyPost_ret (v := .agg #[.int .i64 3, .int .i64 vw, .int .i64 0, .int .i64 lv, .int .i64 lx, .slice B lv0 d]) (by simp [results, Try.results50, go_sem, rm]) rfl ⟨B, d, by rw [ELV.out], ho, hb3⟩
theorem votes_below {vs : List (Int × Int)} {b : Int} (h : votesOkB vs b = true) : ∀ j, j < vs.length → (vs.getD j (0, 0)).1 < b := fun j hj => by
  unfold votesOkB at h
  rw [List.all_eq_true] at h
  have h2 := h j (List.mem_range.2 hj)
  unfold goodAt at h2
  simp only [Bool.and_eq_true, decide_eq_true_eq] at h2
  exact h2.1.2
def rofQ (d : Rd4) (vw : Int) : Bool := (repQ d && decide (d.view < vw)) && decide (vw ≤ 9)
def TRes (q : Bool) (vw lv lx : Int) (us : List (Int × Int)) (w : World) (e : Ending) (w' : World) : Prop := ∃ A d, e = .returned (.tuple #[.agg #[.int .i64 (if q then 3 else 0), .int .i64 (if q then vw else 0), .int .i64 0, .int .i64 (if q then lv else 0), .int .i64 (if q then lx else 0), .slice A (if q then us else []).length d], .bool q]) ∧ OV w' 34 w.heap.size A (if q then us else []) ∧ Below w.heap.size w w'
theorem rof_all {q : Rq} {vw : Int} (h : rofQ q.dat vw = true) : ∀ j, j < q.voted.length → (q.voted.getD j (0, 0)).1 < vw := fun j hj => by
  unfold rofQ at h
  simp only [Bool.and_eq_true, decide_eq_true_eq] at h
  have h1 := h.1.1
  have h2 : q.view < vw := h.1.2
  unfold repQ at h1
  simp only [Bool.and_eq_true] at h1
  have h3 : votesOkB q.voted (q.view + 1) = true := h1.2.1
  have := votes_below h3 j hj
  omega
set_option maxHeartbeats 1600000 in
theorem l1ownMsg_any (k v x a b : Int) (A : Option Addr) (c : Nat) (us : List (Int × Int)) (w : World) (hr : Rd w w.heap.size A us) (hn : us.length ≤ 1048576) :
    Calls Try.prog 48 #[.agg #[.int .i64 k, .int .i64 v, .int .i64 x, .int .i64 a, .int .i64 b, .slice A us.length c]] w (MR k v x a b us w) := by
  obtain ⟨i0, hi0, hz0, hz1, hz2⟩ := info_parts infoVt
  have H1 := Lib.hid (vcells_one us)
  obtain ⟨n, en⟩ : ∃ n, us.length = n := ⟨_, rfl⟩
  have hR := (((hr.up (.cells #[.int .i64 k, .int .i64 v, .int .i64 x, .int .i64 a, .int .i64 b, .slice A us.length c] 45)).up (.cells #[.int .i64 0, .int .i64 0, .int .i64 0, .int .i64 0, .int .i64 0, .slice none 0 0] 45)).up (.cells #[] 34)).reads
  rw [en] at hn hR ⊢
  have HR := Lib.hid hR
  have EN := Lib.hid en; clear en hr hR
  have ka := (Blk.new w 45 #[.int .i64 k, .int .i64 v, .int .i64 x, .int .i64 a, .int .i64 b, .slice A n c]).alloc (.cells #[.int .i64 0, .int .i64 0, .int .i64 0, .int .i64 0, .int .i64 0, .slice none 0 0] 45)
  have hO1 := World.ownsRow_lit (e := 34) (base := w.heap.size + 2) (size := 2) ((w.alloc (.cells #[.int .i64 k, .int .i64 v, .int .i64 x, .int .i64 a, .int .i64 b, .slice A n c] 45)).alloc (.cells #[.int .i64 0, .int .i64 0, .int .i64 0, .int .i64 0, .int .i64 0, .slice none 0 0] 45)) #[] 0 (by simp) (by simp [maxLen]) rfl
  have HO1 := Lib.hid hO1; clear hO1
  have hB0 := up_ (up_ (Below.refl w.heap.size w) (.cells #[.int .i64 k, .int .i64 v, .int .i64 x, .int .i64 a, .int .i64 b, .slice A n c] 45)) (.cells #[.int .i64 0, .int .i64 0, .int .i64 0, .int .i64 0, .int .i64 0, .slice none 0 0] 45)
  have ka1 := ka.alloc (.cells #[] 34)
  have km := Blk.new (w.alloc (.cells #[.int .i64 k, .int .i64 v, .int .i64 x, .int .i64 a, .int .i64 b, .slice A n c] 45)) 45 #[.int .i64 0, .int .i64 0, .int .i64 0, .int .i64 0, .int .i64 0, .slice none 0 0]
  simp only [World.size_alloc] at km
  have km1 := km.alloc (.cells #[] 34)
  have hB1 := up_ hB0 (.cells #[] 34)
  have HB1 := Lib.hid hB1; have HK1 := Lib.hid ka1; have HM1 := Lib.hid km1
  have HPOST := Lib.hid (fun (v1 : Value) (w1 : World) (hown1 : w1.ownsRow (w.heap.size + 2) 34 2 v1 (0 + n) ([] ++ vcells us)) (hgr1 : (((w.alloc (.cells #[.int .i64 k, .int .i64 v, .int .i64 x, .int .i64 a, .int .i64 b, .slice A n c] 45)).alloc (.cells #[.int .i64 0, .int .i64 0, .int .i64 0, .int .i64 0, .int .i64 0, .slice none 0 0] 45)).alloc (.cells #[] 34)).grownBy w1 (some (w.heap.size + 2))) =>
    (show ∃ B d, v1 = .slice B n d ∧ Hid (OV w1 34 (w.heap.size + 2) B us) ∧ Hid (Below w.heap.size w w1) ∧ Blk w1 w.heap.size 45 #[.int .i64 k, .int .i64 v, .int .i64 x, .int .i64 a, .int .i64 b, .slice A n c] ∧ Blk w1 (w.heap.size + 1) 45 #[.int .i64 0, .int .i64 0, .int .i64 0, .int .i64 0, .int .i64 0, .slice none 0 0] from by
      have hown2 : w1.ownsRow (w.heap.size + 2) 34 2 v1 us.length (vcells us) := by
        have h := hown1
        rw [List.nil_append, Nat.zero_add] at h
        rw [EN.out]
        exact h
      obtain ⟨B, d, rfl⟩ := form8 hown2
      exact ⟨B, d, by rw [EN.out], OV.of_own hown2, HB1.out.grown hgr1 (by simp; omega) (fun j hj => by injection hj with hj; omega), Blk.own9 HK1.out hgr1 (by intro e; injection e with e; omega), Blk.own9 HM1.out hgr1 (by intro e; injection e with e; omega)⟩))
  clear hB0 hB1 ka1 km1 km HB1 HK1 HM1
  have ra := ka.rule
  go_enter Try.func48, Try.ntmps48
  go_wp2_with (at_builtin; refine wpList_append_any _ rfl (.tmp 3) (.tmp 5) 33 rfl (w.heap.size + 2) 34 i0 _ 2 16 Try.underlying33 hi0 hz0 hz1 hz2 rfl (by omega) (.slice (some ⟨w.heap.size + 2, 0, none⟩) 0 0) 0 [] rfl (by simpa using HO1.out) _ A n c (vcells us) rfl HR.out H1.out (by simp only [maxLen]; omega) (by omega) (by simp) ?_; intro v1 w1 hown1 hgr1 hat1; obtain ⟨B, d, rfl, hov, HB2, ka2, km2⟩ := HPOST.out v1 w1 hown1 hgr1; have ra2 := ka2.rule; have fa2 := fun i => ka2.frozen i; have rm2 := km2.rule; have fm2 := fun i => km2.frozen i)
  go_wp2
  have km3 : Blk _ _ 45 #[.int .i64 k, .int .i64 v, .int .i64 x, .int .i64 a, .int .i64 b, .slice B n d] := (((((((km2.far (show w.heap.size + 1 ≠ w.heap.size by omega) _ : Blk (w1.setCell ⟨w.heap.size, 5, none⟩ (.slice B n d)) _ _ _)).set_ 0 (.int .i64 k)).set_ 1 (.int .i64 v)).set_ 2 (.int .i64 x)).set_ 3 (.int .i64 a)).set_ 4 (.int .i64 b)).set_ 5 (.slice B n d)
  have rm3 := km3.rule
  have hl : w.heap.size ≤ w.heap.size + 1 := by omega
  have hv3 := OV.more (OV.set_ (p := ⟨w.heap.size + 1, 5, none⟩) (OV.set_ (p := ⟨w.heap.size + 1, 4, none⟩) (OV.set_ (p := ⟨w.heap.size + 1, 3, none⟩) (OV.set_ (p := ⟨w.heap.size + 1, 2, none⟩) (OV.set_ (p := ⟨w.heap.size + 1, 1, none⟩) (OV.set_ (p := ⟨w.heap.size + 1, 0, none⟩) (OV.set_ (p := ⟨w.heap.size, 5, none⟩) hov.out (show w.heap.size < w.heap.size + 2 by omega) (.slice B n d)) (show w.heap.size + 1 < w.heap.size + 2 by omega) (.int .i64 k)) (show w.heap.size + 1 < w.heap.size + 2 by omega) (.int .i64 v)) (show w.heap.size + 1 < w.heap.size + 2 by omega) (.int .i64 x)) (show w.heap.size + 1 < w.heap.size + 2 by omega) (.int .i64 a)) (show w.heap.size + 1 < w.heap.size + 2 by omega) (.int .i64 b)) (show w.heap.size + 1 < w.heap.size + 2 by omega) (.slice B n d)) (show w.heap.size ≤ w.heap.size + 2 by omega)
  refine bodyPost_ret (v := .agg #[.int .i64 k, .int .i64 v, .int .i64 x, .int .i64 a, .int .i64 b, .slice B n d]) (by simp [results, Try.results48, go_sem, rm3]) rfl ⟨B, d, by rw [EN.out], hv3, Below.setCell (Below.setCell (Below.setCell (Below.setCell (Below.setCell (Below.setCell (Below.setCell HB2.out (Nat.le_refl _) _) hl _) hl _) hl _) hl _) hl _) hl _⟩
theorem reads2 (u : World) (xa xb : Int) : Reads (u.alloc (.cells #[.int .i64 xa, .int .i64 xb] 34)) (u.heap.size + 1) 2 (some ⟨u.heap.size, 0, none⟩) 1 [.int .i64 xa, .int .i64 xb] := ⟨rfl, fun _ => ⟨_, rfl, by simp, World.news_of_block (cs := #[.int .i64 xa, .int .i64 xb]) (heap_alloc_new u _)⟩⟩
theorem vtake (vs : List (Int × Int)) (k : Nat) (h : k < vs.length) : vcells (vs.take (k + 1)) = vcells (vs.take k) ++ [.int .i64 (vs.getD k (0, 0)).1, .int .i64 (vs.getD k (0, 0)).2] := by
  rw [take_getD vs (0, 0) k h, vcells_append]
  rfl
set_option maxHeartbeats 3200000 in
theorem l4report_any (q : Rq) (vw : Int) (hall : ∀ j, j < q.voted.length → (q.voted.getD j (0, 0)).1 < vw) (w : World) (hr : RdQ w w.heap.size q) (hf : FewQ q) :
    Calls Try.prog 49 #[q.agg, .int .i64 vw] w (MR 3 vw 0 q.lv q.lx q.voted w) := by
  obtain ⟨i0, hi0, hz0, hz1, hz2⟩ := info_parts infoVt
  obtain ⟨n, id, own, view, left, voted, lv, lx, dn, pr, vo, re, ds, hs, Av, Ap, Ao, Ar, Ad, Ah, cv, cp, co, cr, cd, ch⟩ := q
  obtain ⟨rv, rp, ro, rr, rd, rh⟩ := hr
  obtain ⟨fv, fp, fo, fr, fd, fh⟩ := hf
  simp only [Rq.agg, Rq.cells] at *
  obtain ⟨lv0, elv0⟩ : ∃ m, voted.length = m := ⟨_, rfl⟩
  obtain ⟨lp0, elp0⟩ : ∃ m, pr.length = m := ⟨_, rfl⟩
  obtain ⟨lo0, elo0⟩ : ∃ m, vo.length = m := ⟨_, rfl⟩
  obtain ⟨lr0, elr0⟩ : ∃ m, re.length = m := ⟨_, rfl⟩
  obtain ⟨ld0, eld0⟩ : ∃ m, ds.length = m := ⟨_, rfl⟩
  obtain ⟨lh0, elh0⟩ : ∃ m, hs.length = m := ⟨_, rfl⟩
  simp only [elv0, elp0, elo0, elr0, eld0, elh0] at hall ⊢
  have RV := Lib.hid rv; have ELV := Lib.hid elv0; have HALL := Lib.hid hall
  have blv : lv0 ≤ 1048576 := by rw [← elv0]; exact fv
  clear elv0 elp0 elo0 elr0 eld0 elh0 rv rp ro rr rd rh fv fp fo fr fd fh hall
  have ka := (Blk.new w 40 #[.int .i64 n, .int .i64 id, .int .i64 own, .int .i64 view, .int .i64 left, .slice Av lv0 cv, .int .i64 lv, .int .i64 lx, .int .i64 dn, .slice Ap lp0 cp, .slice Ao lo0 co, .slice Ar lr0 cr, .slice Ad ld0 cd, .slice Ah lh0 ch]).alloc (.cells #[.int .i64 0, .int .i64 0, .int .i64 0, .int .i64 0, .int .i64 0, .slice none 0 0] 45)
  have km := Blk.new (w.alloc (.cells #[.int .i64 n, .int .i64 id, .int .i64 own, .int .i64 view, .int .i64 left, .slice Av lv0 cv, .int .i64 lv, .int .i64 lx, .int .i64 dn, .slice Ap lp0 cp, .slice Ao lo0 co, .slice Ar lr0 cr, .slice Ad ld0 cd, .slice Ah lh0 ch] 40)) 45 #[.int .i64 0, .int .i64 0, .int .i64 0, .int .i64 0, .int .i64 0, .slice none 0 0]
  simp only [World.size_alloc] at km
  have HBX : Hid (∀ wr, Below (w.heap.size + 2) ((w.alloc (.cells #[.int .i64 n, .int .i64 id, .int .i64 own, .int .i64 view, .int .i64 left, .slice Av lv0 cv, .int .i64 lv, .int .i64 lx, .int .i64 dn, .slice Ap lp0 cp, .slice Ao lo0 co, .slice Ar lr0 cr, .slice Ad ld0 cd, .slice Ah lh0 ch] 40)).alloc (.cells #[.int .i64 0, .int .i64 0, .int .i64 0, .int .i64 0, .int .i64 0, .slice none 0 0] 45)) wr → Blk wr w.heap.size 40 #[.int .i64 n, .int .i64 id, .int .i64 own, .int .i64 view, .int .i64 left, .slice Av lv0 cv, .int .i64 lv, .int .i64 lx, .int .i64 dn, .slice Ap lp0 cp, .slice Ao lo0 co, .slice Ar lr0 cr, .slice Ad ld0 cd, .slice Ah lh0 ch] ∧ Blk wr (w.heap.size + 1) 45 #[.int .i64 0, .int .i64 0, .int .i64 0, .int .i64 0, .int .i64 0, .slice none 0 0] ∧ Below w.heap.size w wr ∧ w.heap.size + 2 ≤ wr.heap.size) := fun wr h => ⟨ka.below h (by omega), km.below h (by omega), Below.trans (up_ (up_ (Below.refl w.heap.size w) (.cells #[.int .i64 n, .int .i64 id, .int .i64 own, .int .i64 view, .int .i64 left, .slice Av lv0 cv, .int .i64 lv, .int .i64 lx, .int .i64 dn, .slice Ap lp0 cp, .slice Ao lo0 co, .slice Ar lr0 cr, .slice Ad ld0 cd, .slice Ah lh0 ch] 40)) (.cells #[.int .i64 0, .int .i64 0, .int .i64 0, .int .i64 0, .int .i64 0, .slice none 0 0] 45)) (h.mono (by omega)), by have := h.size; simpa using this⟩
  have HB0 : Hid (Below (w.heap.size + 2) ((w.alloc (.cells #[.int .i64 n, .int .i64 id, .int .i64 own, .int .i64 view, .int .i64 left, .slice Av lv0 cv, .int .i64 lv, .int .i64 lx, .int .i64 dn, .slice Ap lp0 cp, .slice Ao lo0 co, .slice Ar lr0 cr, .slice Ad ld0 cd, .slice Ah lh0 ch] 40)).alloc (.cells #[.int .i64 0, .int .i64 0, .int .i64 0, .int .i64 0, .int .i64 0, .slice none 0 0] 45)) ((w.alloc (.cells #[.int .i64 n, .int .i64 id, .int .i64 own, .int .i64 view, .int .i64 left, .slice Av lv0 cv, .int .i64 lv, .int .i64 lx, .int .i64 dn, .slice Ap lp0 cp, .slice Ao lo0 co, .slice Ar lr0 cr, .slice Ad ld0 cd, .slice Ah lh0 ch] 40)).alloc (.cells #[.int .i64 0, .int .i64 0, .int .i64 0, .int .i64 0, .int .i64 0, .slice none 0 0] 45))) := Below.refl _ _
  have ra := ka.rule
  clear km
  go_enter Try.func49, Try.ntmps49
  clear ka
  go_wp2
  go_loopw [5, 6] (fun out i wr => ∃ (k : Nat), k ≤ lv0 ∧ i = .int .i64 k ∧ wr.ownsRow (w.heap.size + 2) 34 2 out k (vcells (voted.take k)) ∧ Hid (Below (w.heap.size + 2) ((w.alloc (.cells #[.int .i64 n, .int .i64 id, .int .i64 own, .int .i64 view, .int .i64 left, .slice Av lv0 cv, .int .i64 lv, .int .i64 lx, .int .i64 dn, .slice Ap lp0 cp, .slice Ao lo0 co, .slice Ar lr0 cr, .slice Ad ld0 cd, .slice Ah lh0 ch] 40)).alloc (.cells #[.int .i64 0, .int .i64 0, .int .i64 0, .int .i64 0, .int .i64 0, .slice none 0 0] 45)) wr)) (fun _ i _ => lv0 - (intOf i).toNat)
  case atStart => exact ⟨0, Nat.zero_le _, rfl, World.ownsRow_nil _ _ _ _, HB0.out⟩
  case round =>
    clear ra HB0
    obtain ⟨k, hk, rfl, hown, hbel⟩ := hrel
    obtain ⟨ka, km, hB, hsz⟩ := HBX.out wr hbel.out
    have ra := ka.rule
    have HM := Lib.hid km; clear km
    by_cases hlt : k < lv0
    · obtain ⟨b_, off, rfl, hb, hc0, hc1⟩ := Rd.at_ (RV.out.below hB) (k := k) (by rw [ELV.out]; exact hlt)
      have hx := HALL.out k hlt
      have htk := Lib.hid (vtake voted k (by rw [ELV.out]; exact hlt))
      obtain ⟨⟨xa, xb⟩, hu⟩ : ∃ u, voted.getD k (0, 0) = u := ⟨_, rfl⟩
      rw [hu] at hc0 hc1 hx htk
      simp only at hc0 hc1 hx htk
      clear hu
      have hd : decide (xa < vw) = true := decide_eq_true hx
      go_wp2_with (at_builtin; refine wpList_append_any _ rfl (.tmp 22) (.tmp 28) 33 rfl (w.heap.size + 2) 34 i0 _ 2 16 Try.underlying33 hi0 hz0 hz1 hz2 rfl (by omega) u5 k (vcells (voted.take k)) rfl (hown.alloc _) _ _ 1 1 [.int .i64 xa, .int .i64 xb] rfl (reads2 _ _ _) (by simp [Value.oneCell']) (by simp only [maxLen]; omega) (by omega) (by simp; omega) ?_; intro v2 w2 hown2 hgr2 hat2; have hbel2 := Lib.hid ((hbel.out.alloc hsz _).grown hgr2 (by simp; omega) (fun j hj => (hown.lt j hj).1)))
      go_roundw
      case rel => exact ⟨k + 1, by omega, by go_num, by rw [htk.out]; exact hown2, hbel2⟩
      case measure => simp [intOf]; omega
    · obtain rfl : k = lv0 := by omega
      rw [List.take_of_length_le (by rw [ELV.out]; exact Nat.le_refl _)] at hown
      rw [← ELV.out] at hown
      obtain ⟨B, d, rfl⟩ := form8 hown
      have hov := OV.of_own hown
      rw [ELV.out]
      have km := HM.out
      have rm := km.rule
      have fm := fun i => km.frozen i
      go_wp2
      have km3 : Blk _ _ 45 #[.int .i64 3, .int .i64 vw, .int .i64 0, .int .i64 lv, .int .i64 lx, .slice B k d] := ((((((km.set_ 0 (.int .i64 3)).set_ 1 (.int .i64 vw)).set_ 2 (.int .i64 0)).set_ 3 (.int .i64 lv)).set_ 4 (.int .i64 lx)).set_ 5 (.slice B k d))
      have rm3 := km3.rule
      have hl : w.heap.size ≤ w.heap.size + 1 := by omega
      have hv3 := OV.more (OV.set6 (v0 := .int .i64 3) (v1 := .int .i64 vw) (v2 := .int .i64 0) (v3 := .int .i64 lv) (v4 := .int .i64 lx) (v5 := .slice B k d) hov km (by decide)) (show w.heap.size ≤ w.heap.size + 2 by omega)
      refine bodyPost_ret (v := .agg #[.int .i64 3, .int .i64 vw, .int .i64 0, .int .i64 lv, .int .i64 lx, .slice B k d]) (by simp [results, Try.results49, go_sem, rm3]) rfl ⟨B, d, by rw [ELV.out], hv3, (Below.setCell (Below.setCell (Below.setCell (Below.setCell (Below.setCell (Below.setCell hB hl _) hl _) hl _) hl _) hl _) hl _)⟩
set_option maxHeartbeats 3200000 in
theorem implReportOf_is (q : Rq) (vw : Int) (w : World) (hr : RdQ w w.heap.size q) (hf : FewQ q) :
    Calls Try.prog 14 #[q.agg, .int .i64 vw] w (TRes (rofQ q.dat vw) vw q.lv q.lx q.voted w) := by
  obtain ⟨g, hg⟩ : ∃ g, repQ q.dat = g := ⟨_, rfl⟩
  have hz : rofQ q.dat vw = ((g && decide (q.view < vw)) && decide (vw ≤ 9)) := by rw [← hg]; rfl
  have HC := Lib.hid (fun (W : World) (h : Below w.heap.size w W) => implRepOk_is g q hg W ((hr.below h).more h.size) hf)
  have HALL := Lib.hid (fun h : rofQ q.dat vw = true => rof_all h)
  have HS := Lib.hid (fun (h : rofQ q.dat vw = true) (W : World) (hw : Below w.heap.size w W) => reportOf_any q vw W ((hr.below hw).more hw.size) hf)
  rw [hz] at HALL HS ⊢
  clear hz hg
  obtain ⟨n, id, own, view, left, voted, lv, lx, dn, pr, vo, re, ds, hs, Av, Ap, Ao, Ar, Ad, Ah, cv, cp, co, cr, cd, ch⟩ := q
  obtain ⟨rv, rp, ro, rr, rd, rh⟩ := hr
  obtain ⟨fv, fp, fo, fr, fd, fh⟩ := hf
  simp only [Rq.agg, Rq.cells] at *
  obtain ⟨lv0, elv0⟩ : ∃ m, voted.length = m := ⟨_, rfl⟩
  obtain ⟨lp0, elp0⟩ : ∃ m, pr.length = m := ⟨_, rfl⟩
  obtain ⟨lo0, elo0⟩ : ∃ m, vo.length = m := ⟨_, rfl⟩
  obtain ⟨lr0, elr0⟩ : ∃ m, re.length = m := ⟨_, rfl⟩
  obtain ⟨ld0, eld0⟩ : ∃ m, ds.length = m := ⟨_, rfl⟩
  obtain ⟨lh0, elh0⟩ : ∃ m, hs.length = m := ⟨_, rfl⟩
  simp only [elv0, elp0, elo0, elr0, eld0, elh0] at HC HS ⊢
  have FV := Lib.hid (elv0 ▸ fv : lv0 ≤ 1048576)
  have ELV := Lib.hid elv0
  clear elv0 elp0 elo0 elr0 eld0 elh0 rv rp ro rr rd rh fv fp fo fr fd fh HALL
  have ka := (Blk.new w 40 #[.int .i64 n, .int .i64 id, .int .i64 own, .int .i64 view, .int .i64 left, .slice Av lv0 cv, .int .i64 lv, .int .i64 lx, .int .i64 dn, .slice Ap lp0 cp, .slice Ao lo0 co, .slice Ar lr0 cr, .slice Ad ld0 cd, .slice Ah lh0 ch]).alloc (.cells #[.int .i64 0, .int .i64 0, .int .i64 0, .int .i64 0, .int .i64 0, .slice none 0 0] 45)
  have km := Blk.new (w.alloc (.cells #[.int .i64 n, .int .i64 id, .int .i64 own, .int .i64 view, .int .i64 left, .slice Av lv0 cv, .int .i64 lv, .int .i64 lx, .int .i64 dn, .slice Ap lp0 cp, .slice Ao lo0 co, .slice Ar lr0 cr, .slice Ad ld0 cd, .slice Ah lh0 ch] 40)) 45 #[.int .i64 0, .int .i64 0, .int .i64 0, .int .i64 0, .int .i64 0, .slice none 0 0]
  simp only [World.size_alloc] at km
  have hB := up_ (up_ (Below.refl w.heap.size w) (.cells #[.int .i64 n, .int .i64 id, .int .i64 own, .int .i64 view, .int .i64 left, .slice Av lv0 cv, .int .i64 lv, .int .i64 lx, .int .i64 dn, .slice Ap lp0 cp, .slice Ao lo0 co, .slice Ar lr0 cr, .slice Ad ld0 cd, .slice Ah lh0 ch] 40)) (.cells #[.int .i64 0, .int .i64 0, .int .i64 0, .int .i64 0, .int .i64 0, .slice none 0 0] 45)
  have hl : w.heap.size ≤ w.heap.size + 1 := by omega
  have ra := ka.rule
  go_enter Try.func14, Try.ntmps14
  go_wp2_with fail
  refine (HC.out _ hB).mono ?_
  rintro e w1 ⟨rfl, hb⟩
  have ka1 := ka.on hb; have km1 := km.on hb; have hB1 := on_ hB hb; clear ra ka km hB hb; have ra := ka1.rule; have rm := km1.rule; have fm := fun i => km1.frozen i
  rcases g with _ | _
  · go_wp2
    have km3 : Blk _ _ 45 #[.int .i64 0, .int .i64 0, .int .i64 0, .int .i64 0, .int .i64 0, .slice none 0 0] := ((((((km1.set_ 0 (.int .i64 0)).set_ 1 (.int .i64 0)).set_ 2 (.int .i64 0)).set_ 3 (.int .i64 0)).set_ 4 (.int .i64 0)).set_ 5 (.slice none 0 0))
    have rm3 := km3.rule
    refine bodyPost_ret (v := .tuple #[.agg #[.int .i64 0, .int .i64 0, .int .i64 0, .int .i64 0, .int .i64 0, .slice none 0 0], .bool false]) (by simp [results, Try.results14, go_sem, rm3]) rfl (by exact ⟨none, 0, rfl, OV.nil_, (Below.setCell (Below.setCell (Below.setCell (Below.setCell (Below.setCell (Below.setCell hB1 hl _) hl _) hl _) hl _) hl _) hl _)⟩)
  · by_cases h1 : view < vw
    · by_cases h2 : vw ≤ 9
      · have e1 : decide (vw ≤ view) = false := decide_eq_false (by omega)
        have e2 : decide (9 < vw) = false := decide_eq_false (by omega)
        have hq : ((true && decide (view < vw)) && decide (vw ≤ 9)) = true := by rw [decide_eq_true h1, decide_eq_true h2]; rfl
        rw [hq]
        have H9 := Lib.hid (HS.out hq)
        clear HS HC
        clear rm fm
        go_wp2_with fail
        refine (H9.out _ hB1).mono ?_
        rintro e w2 ⟨B, d, rfl, ho, hb⟩
        have hBB := on_ hB1 hb
        have hoB := ho.more hB1.size
        have km9 := km1.on hb
        rw [ELV.out]
        clear ra ka1 km1 hb ho H9
        have km2 : Blk _ (w.heap.size + 1) 45 #[.int .i64 0, .int .i64 0, .int .i64 0, .int .i64 0, .int .i64 0, .slice none 0 0] := km9
        have rm := km2.rule; have fm := fun i => km2.frozen i
        go_wp2
        have km3 : Blk _ _ 45 #[.int .i64 3, .int .i64 vw, .int .i64 0, .int .i64 lv, .int .i64 lx, .slice B lv0 d] := ((((((km2.set_ 0 (.int .i64 3)).set_ 1 (.int .i64 vw)).set_ 2 (.int .i64 0)).set_ 3 (.int .i64 lv)).set_ 4 (.int .i64 lx)).set_ 5 (.slice B lv0 d))
        have rm3 := km3.rule
        refine bodyPost_ret (v := .tuple #[.agg #[.int .i64 3, .int .i64 vw, .int .i64 0, .int .i64 lv, .int .i64 lx, .slice B lv0 d], .bool true]) (by simp [results, Try.results14, go_sem, rm3]) rfl (by rw [hq]; exact ⟨B, d, by rw [if_pos rfl, if_pos rfl, if_pos rfl, if_pos rfl, if_pos rfl, ELV.out], OV.set6 hoB km2 (by decide), (Below.setCell (Below.setCell (Below.setCell (Below.setCell (Below.setCell (Below.setCell hBB hl _) hl _) hl _) hl _) hl _) hl _)⟩)
      · have hq : ((true && decide (view < vw)) && decide (vw ≤ 9)) = false := by rw [decide_eq_false h2, Bool.and_false]
        rw [hq]
        have e1 : decide (vw ≤ view) = false := decide_eq_false (by omega)
        have e2 : decide (9 < vw) = true := decide_eq_true (by omega)
        go_wp2
        have km3 : Blk _ _ 45 #[.int .i64 0, .int .i64 0, .int .i64 0, .int .i64 0, .int .i64 0, .slice none 0 0] := ((((((km1.set_ 0 (.int .i64 0)).set_ 1 (.int .i64 0)).set_ 2 (.int .i64 0)).set_ 3 (.int .i64 0)).set_ 4 (.int .i64 0)).set_ 5 (.slice none 0 0))
        have rm3 := km3.rule
        refine bodyPost_ret (v := .tuple #[.agg #[.int .i64 0, .int .i64 0, .int .i64 0, .int .i64 0, .int .i64 0, .slice none 0 0], .bool false]) (by simp [results, Try.results14, go_sem, rm3]) rfl (by rw [hq]; exact ⟨none, 0, rfl, OV.nil_, (Below.setCell (Below.setCell (Below.setCell (Below.setCell (Below.setCell (Below.setCell hB1 hl _) hl _) hl _) hl _) hl _) hl _)⟩)
    · have hq : ((true && decide (view < vw)) && decide (vw ≤ 9)) = false := by rw [decide_eq_false h1, Bool.and_false, Bool.false_and]
      rw [hq]
      have e1 : decide (vw ≤ view) = true := decide_eq_true (by omega)
      go_wp2
      have km3 : Blk _ _ 45 #[.int .i64 0, .int .i64 0, .int .i64 0, .int .i64 0, .int .i64 0, .slice none 0 0] := ((((((km1.set_ 0 (.int .i64 0)).set_ 1 (.int .i64 0)).set_ 2 (.int .i64 0)).set_ 3 (.int .i64 0)).set_ 4 (.int .i64 0)).set_ 5 (.slice none 0 0))
      have rm3 := km3.rule
      refine bodyPost_ret (v := .tuple #[.agg #[.int .i64 0, .int .i64 0, .int .i64 0, .int .i64 0, .int .i64 0, .slice none 0 0], .bool false]) (by simp [results, Try.results14, go_sem, rm3]) rfl (by rw [hq]; exact ⟨none, 0, rfl, OV.nil_, (Below.setCell (Below.setCell (Below.setCell (Below.setCell (Below.setCell (Below.setCell hB1 hl _) hl _) hl _) hl _) hl _) hl _)⟩)
set_option maxHeartbeats 3200000 in
theorem specReportOf_is (q : Rq) (vw : Int) (w : World) (hr : RdQ w w.heap.size q) (hf : FewQ q) :
    Calls Try.prog 13 #[q.agg, .int .i64 vw] w (TRes (rofQ q.dat vw) vw q.lv q.lx q.voted w) := by
  obtain ⟨g, hg⟩ : ∃ g, repQ q.dat = g := ⟨_, rfl⟩
  have hz : rofQ q.dat vw = ((g && decide (q.view < vw)) && decide (vw ≤ 9)) := by rw [← hg]; rfl
  have HC := Lib.hid (fun (W : World) (h : Below w.heap.size w W) => specRepOk_is g q hg W ((hr.below h).more h.size) hf)
  have HALL := Lib.hid (fun h : rofQ q.dat vw = true => rof_all h)
  have HS := Lib.hid (fun (h : rofQ q.dat vw = true) (W : World) (hw : Below w.heap.size w W) => l4report_any q vw (rof_all h) W ((hr.below hw).more hw.size) hf)
  rw [hz] at HALL HS ⊢
  clear hz hg
  obtain ⟨n, id, own, view, left, voted, lv, lx, dn, pr, vo, re, ds, hs, Av, Ap, Ao, Ar, Ad, Ah, cv, cp, co, cr, cd, ch⟩ := q
  obtain ⟨rv, rp, ro, rr, rd, rh⟩ := hr
  obtain ⟨fv, fp, fo, fr, fd, fh⟩ := hf
  simp only [Rq.agg, Rq.cells] at *
  obtain ⟨lv0, elv0⟩ : ∃ m, voted.length = m := ⟨_, rfl⟩
  obtain ⟨lp0, elp0⟩ : ∃ m, pr.length = m := ⟨_, rfl⟩
  obtain ⟨lo0, elo0⟩ : ∃ m, vo.length = m := ⟨_, rfl⟩
  obtain ⟨lr0, elr0⟩ : ∃ m, re.length = m := ⟨_, rfl⟩
  obtain ⟨ld0, eld0⟩ : ∃ m, ds.length = m := ⟨_, rfl⟩
  obtain ⟨lh0, elh0⟩ : ∃ m, hs.length = m := ⟨_, rfl⟩
  simp only [elv0, elp0, elo0, elr0, eld0, elh0] at HC HS ⊢
  have FV := Lib.hid (elv0 ▸ fv : lv0 ≤ 1048576)
  have ELV := Lib.hid elv0
  clear elv0 elp0 elo0 elr0 eld0 elh0 rv rp ro rr rd rh fv fp fo fr fd fh HALL
  have ka := (Blk.new w 40 #[.int .i64 n, .int .i64 id, .int .i64 own, .int .i64 view, .int .i64 left, .slice Av lv0 cv, .int .i64 lv, .int .i64 lx, .int .i64 dn, .slice Ap lp0 cp, .slice Ao lo0 co, .slice Ar lr0 cr, .slice Ad ld0 cd, .slice Ah lh0 ch]).alloc (.cells #[.int .i64 0, .int .i64 0, .int .i64 0, .int .i64 0, .int .i64 0, .slice none 0 0] 45)
  have km := Blk.new (w.alloc (.cells #[.int .i64 n, .int .i64 id, .int .i64 own, .int .i64 view, .int .i64 left, .slice Av lv0 cv, .int .i64 lv, .int .i64 lx, .int .i64 dn, .slice Ap lp0 cp, .slice Ao lo0 co, .slice Ar lr0 cr, .slice Ad ld0 cd, .slice Ah lh0 ch] 40)) 45 #[.int .i64 0, .int .i64 0, .int .i64 0, .int .i64 0, .int .i64 0, .slice none 0 0]
  simp only [World.size_alloc] at km
  have hB := up_ (up_ (Below.refl w.heap.size w) (.cells #[.int .i64 n, .int .i64 id, .int .i64 own, .int .i64 view, .int .i64 left, .slice Av lv0 cv, .int .i64 lv, .int .i64 lx, .int .i64 dn, .slice Ap lp0 cp, .slice Ao lo0 co, .slice Ar lr0 cr, .slice Ad ld0 cd, .slice Ah lh0 ch] 40)) (.cells #[.int .i64 0, .int .i64 0, .int .i64 0, .int .i64 0, .int .i64 0, .slice none 0 0] 45)
  have hl : w.heap.size ≤ w.heap.size + 1 := by omega
  have ra := ka.rule
  go_enter Try.func13, Try.ntmps13
  go_wp2_with fail
  refine (HC.out _ hB).mono ?_
  rintro e w1 ⟨rfl, hb⟩
  have ka1 := ka.on hb; have km1 := km.on hb; have hB1 := on_ hB hb; clear ra ka km hB hb; have ra := ka1.rule; have rm := km1.rule; have fm := fun i => km1.frozen i
  rcases g with _ | _
  · go_wp2
    have km3 : Blk _ _ 45 #[.int .i64 0, .int .i64 0, .int .i64 0, .int .i64 0, .int .i64 0, .slice none 0 0] := ((((((km1.set_ 0 (.int .i64 0)).set_ 1 (.int .i64 0)).set_ 2 (.int .i64 0)).set_ 3 (.int .i64 0)).set_ 4 (.int .i64 0)).set_ 5 (.slice none 0 0))
    have rm3 := km3.rule
    refine bodyPost_ret (v := .tuple #[.agg #[.int .i64 0, .int .i64 0, .int .i64 0, .int .i64 0, .int .i64 0, .slice none 0 0], .bool false]) (by simp [results, Try.results13, go_sem, rm3]) rfl (by exact ⟨none, 0, rfl, OV.nil_, (Below.setCell (Below.setCell (Below.setCell (Below.setCell (Below.setCell (Below.setCell hB1 hl _) hl _) hl _) hl _) hl _) hl _)⟩)
  · by_cases h1 : view < vw
    · by_cases h2 : vw ≤ 9
      · have e1 : decide (vw ≤ view) = false := decide_eq_false (by omega)
        have e2 : decide (9 < vw) = false := decide_eq_false (by omega)
        have hq : ((true && decide (view < vw)) && decide (vw ≤ 9)) = true := by rw [decide_eq_true h1, decide_eq_true h2]; rfl
        rw [hq]
        have H9 := Lib.hid (HS.out hq)
        clear HS HC
        clear rm fm
        go_wp2_with fail
        refine (H9.out _ hB1).mono ?_
        rintro e w2 ⟨B2, d2, rfl, ho2, hb2⟩
        have hB2 := on_ hB1 hb2
        have km2 := km1.on hb2
        go_wp2_with fail
        refine (l1ownMsg_any 3 vw 0 lv lx B2 d2 voted w2 ho2.rd (by rw [ELV.out]; exact FV.out)).mono ?_
        rintro e w3 ⟨B, d, rfl, ho, hb⟩
        have hBB := on_ hB2 hb
        have hoB := ho.more hB2.size
        have km9 := km2.on hb
        rw [ELV.out]
        clear ra ka1 km1 km2 hb ho H9 hb2 ho2
        have km2 : Blk _ (w.heap.size + 1) 45 #[.int .i64 0, .int .i64 0, .int .i64 0, .int .i64 0, .int .i64 0, .slice none 0 0] := km9
        have rm := km2.rule; have fm := fun i => km2.frozen i
        go_wp2
        have km3 : Blk _ _ 45 #[.int .i64 3, .int .i64 vw, .int .i64 0, .int .i64 lv, .int .i64 lx, .slice B lv0 d] := ((((((km2.set_ 0 (.int .i64 3)).set_ 1 (.int .i64 vw)).set_ 2 (.int .i64 0)).set_ 3 (.int .i64 lv)).set_ 4 (.int .i64 lx)).set_ 5 (.slice B lv0 d))
        have rm3 := km3.rule
        refine bodyPost_ret (v := .tuple #[.agg #[.int .i64 3, .int .i64 vw, .int .i64 0, .int .i64 lv, .int .i64 lx, .slice B lv0 d], .bool true]) (by simp [results, Try.results13, go_sem, rm3]) rfl (by rw [hq]; exact ⟨B, d, by rw [if_pos rfl, if_pos rfl, if_pos rfl, if_pos rfl, if_pos rfl, ELV.out], OV.set6 hoB km2 (by decide), (Below.setCell (Below.setCell (Below.setCell (Below.setCell (Below.setCell (Below.setCell hBB hl _) hl _) hl _) hl _) hl _) hl _)⟩)
      · have hq : ((true && decide (view < vw)) && decide (vw ≤ 9)) = false := by rw [decide_eq_false h2, Bool.and_false]
        rw [hq]
        have e1 : decide (vw ≤ view) = false := decide_eq_false (by omega)
        have e2 : decide (9 < vw) = true := decide_eq_true (by omega)
        go_wp2
        have km3 : Blk _ _ 45 #[.int .i64 0, .int .i64 0, .int .i64 0, .int .i64 0, .int .i64 0, .slice none 0 0] := ((((((km1.set_ 0 (.int .i64 0)).set_ 1 (.int .i64 0)).set_ 2 (.int .i64 0)).set_ 3 (.int .i64 0)).set_ 4 (.int .i64 0)).set_ 5 (.slice none 0 0))
        have rm3 := km3.rule
        refine bodyPost_ret (v := .tuple #[.agg #[.int .i64 0, .int .i64 0, .int .i64 0, .int .i64 0, .int .i64 0, .slice none 0 0], .bool false]) (by simp [results, Try.results13, go_sem, rm3]) rfl (by rw [hq]; exact ⟨none, 0, rfl, OV.nil_, (Below.setCell (Below.setCell (Below.setCell (Below.setCell (Below.setCell (Below.setCell hB1 hl _) hl _) hl _) hl _) hl _) hl _)⟩)
    · have hq : ((true && decide (view < vw)) && decide (vw ≤ 9)) = false := by rw [decide_eq_false h1, Bool.and_false, Bool.false_and]
      rw [hq]
      have e1 : decide (vw ≤ view) = true := decide_eq_true (by omega)
      go_wp2
      have km3 : Blk _ _ 45 #[.int .i64 0, .int .i64 0, .int .i64 0, .int .i64 0, .int .i64 0, .slice none 0 0] := ((((((km1.set_ 0 (.int .i64 0)).set_ 1 (.int .i64 0)).set_ 2 (.int .i64 0)).set_ 3 (.int .i64 0)).set_ 4 (.int .i64 0)).set_ 5 (.slice none 0 0))
      have rm3 := km3.rule
      refine bodyPost_ret (v := .tuple #[.agg #[.int .i64 0, .int .i64 0, .int .i64 0, .int .i64 0, .int .i64 0, .slice none 0 0], .bool false]) (by simp [results, Try.results13, go_sem, rm3]) rfl (by rw [hq]; exact ⟨none, 0, rfl, OV.nil_, (Below.setCell (Below.setCell (Below.setCell (Below.setCell (Below.setCell (Below.setCell hB1 hl _) hl _) hl _) hl _) hl _) hl _)⟩)
end Go.Proofs.Ytfdfjmibjnmhpaa.V
