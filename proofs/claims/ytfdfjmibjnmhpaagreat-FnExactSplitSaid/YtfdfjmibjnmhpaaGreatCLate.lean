/-
  Rows of numbers: how they read, comparison, marks, and rows of the call's own. Honest of the program: contract. Latest of the model and of the program: contracts. Latest of the program: contract. What honest replicas decided: decisions and Decided, contracts. Agreed of the model and of the program: contracts. Verdict of the model and of the program: contracts. No statement is proved here.
-/
import Derived.Test.YtfdfjmibjnmhpaaGreatRep2
import Derived.Deep.AppendLies
import Derived.Deep.RegionHeld3
import Derived.Test.YtfdfjmibjnmhpaaGreatCProg
import Derived.Test.YtfdfjmibjnmhpaaGreatTallyVoters
import Derived.Test.YtfdfjmibjnmhpaaGreatTallyViews
import Derived.Test.YtfdfjmibjnmhpaaGreatCSpec
set_option linter.unusedVariables false
set_option maxRecDepth 100000
namespace Go.Proofs.YtfdfjmibjnmhpaaGreat.V
open Go.RowKit Go.Proofs.YtfdfjmibjnmhpaaGreat.B
end Go.Proofs.YtfdfjmibjnmhpaaGreat.V
namespace Go.Proofs.YtfdfjmibjnmhpaaGreat.B
open Go.RowKit
/-- A slice value at address A reads, below block Bd, as the bytes xs. -/
def RdI (w : World) (Bd : Nat) (A : Option Addr) (xs : List Int) : Prop :=
  0 < xs.length → ∃ b off, A = some ⟨b, off, none⟩ ∧ b < Bd ∧ ∀ i, i < xs.length → w.cell? ⟨b, off + i, none⟩ = some (.int .i64 (xs.getD i 0))
section
variable {w w' : World} {Bd Bd' : Nat} {A : Option Addr} {xs : List Int}
theorem RdI.keep (h : RdI w Bd A xs) (hk : ∀ b o, b < Bd → w'.cell? ⟨b, o, none⟩ = w.cell? ⟨b, o, none⟩) : RdI w' Bd A xs := fun hn => by
  obtain ⟨b, off, e, hb, hc⟩ := h hn
  exact ⟨b, off, e, hb, fun i hi => (hk _ _ hb).trans (hc i hi)⟩
theorem RdI.more (h : RdI w Bd A xs) (hB : Bd ≤ Bd') : RdI w Bd' A xs := fun hn => by
  obtain ⟨b, off, e, hb, hc⟩ := h hn
  exact ⟨b, off, e, by omega, hc⟩
theorem RdI.below (h : RdI w Bd A xs) (hb : Below Bd w w') : RdI w' Bd A xs := h.keep fun _ _ hp => hb.cell hp
theorem RdI.alloc (h : RdI w Bd A xs) (hB : Bd ≤ w.heap.size) (o : Obj) : RdI (w.alloc o) Bd A xs := h.keep fun b o' hp => World.cell?_alloc_lt w o ⟨b, o', none⟩ (by simpa using (show b < w.heap.size by omega))
theorem RdI.on (h : RdI w w.heap.size A xs) (hb : Below w.heap.size w w') : RdI w' w'.heap.size A xs := (h.below hb).more hb.size
theorem RdI.up (h : RdI w w.heap.size A xs) (O : Obj) : RdI (w.alloc O) (w.alloc O).heap.size A xs := (h.alloc (Nat.le_refl _) O).more (by simp)
theorem RdI.nil_ : RdI w Bd A [] := fun h => absurd h (by simp)
theorem RdI.at_ (h : RdI w Bd A xs) {k : Nat} (hk : k < xs.length) : ∃ b off, A = some ⟨b, off, none⟩ ∧ b < Bd ∧ w.cell? ⟨b, off + k, none⟩ = some (.int .i64 (xs.getD k 0)) := by
  obtain ⟨b, off, rfl, hb, hc⟩ := h (by omega)
  exact ⟨b, off, rfl, hb, hc k hk⟩
end

/-- The first k bytes of xs stand in the cells cs. -/
def PI (cs : Array Value) (xs : List Int) (k : Nat) : Prop := xs.length ≤ cs.size ∧ ∀ i, i < k → cs[i]? = some (.int .i64 (xs.getD i 0))
theorem PI.zero {cs : Array Value} {xs : List Int} (h : xs.length ≤ cs.size) : PI cs xs 0 := ⟨h, fun i hi => absurd hi (by omega)⟩
theorem PI.step {cs : Array Value} {xs : List Int} {k : Nat} (h : PI cs xs k) (hk : k < xs.length) : PI (cs.setIfInBounds k (.int .i64 (xs.getD k 0))) xs (k + 1) := by
  refine ⟨by simpa using h.1, fun i hi => ?_⟩
  have hs := h.1
  by_cases e : i = k
  · subst e
    rw [Array.getElem?_setIfInBounds_self_of_lt (by omega)]
  · rw [Array.getElem?_setIfInBounds_ne (by omega)]
    exact h.2 i (by omega)
theorem PI.rd {w : World} {g t Bd : Nat} {cs : Array Value} {xs : List Int} (h : PI cs xs xs.length) (hb : Blk w g t cs) (hg : g < Bd) : RdI w Bd (some ⟨g, 0, none⟩) xs :=
  fun _ => ⟨g, 0, rfl, hg, fun i hi => by rw [Nat.zero_add, hb.cell]; exact h.2 i hi⟩

/-- A slice of bytes of the call's own: nil, or a row of its own whose first cells are xs. -/
def OI (w : World) (t base : Nat) (A : Option Addr) (xs : List Int) : Prop := (A = none ∧ xs = []) ∨ ∃ g cur, A = some ⟨g, 0, none⟩ ∧ base ≤ g ∧ Blk w g t cur ∧ PI cur xs xs.length
theorem OI.nil_ {w : World} {t base : Nat} : OI w t base none [] := .inl ⟨rfl, rfl⟩
theorem OI.of_own {w : World} {base t n c : Nat} {A : Option Addr} {xs : List Int} (h : w.ownsRow base t 1 (.slice A n c) n (xs.map (Value.int .i64))) : n = xs.length ∧ OI w t base A xs := by
  obtain ⟨hl, h⟩ := h
  have hn : n = xs.length := by simpa using hl.symm
  refine ⟨hn, ?_⟩
  rcases h with ⟨h1, h2⟩ | ⟨g, cap, cur, h1, h2, h3, h4, h5, h6, h7⟩
  · injection h1 with h1
    exact .inl ⟨h1, List.eq_nil_of_length_eq_zero (by omega)⟩
  · injection h1 with h1
    refine .inr ⟨g, cur, h1, h2, h3, by omega, fun i hi => ?_⟩
    have hi' : i < n := by omega
    have : (cur.toList.take (n * 1))[i]? = some (.int .i64 (xs.getD i 0)) := by
      rw [h7]
      simp [List.getD, List.getElem?_eq_getElem hi]
    rw [List.getElem?_take_of_lt (by omega)] at this
    simpa using this
theorem OI.rd {w : World} {t base : Nat} {A : Option Addr} {xs : List Int} (h : OI w t base A xs) : RdI w w.heap.size A xs := by
  rcases h with ⟨rfl, rfl⟩ | ⟨g, cur, rfl, _, hb, hp⟩
  · exact RdI.nil_
  · exact hp.rd hb hb.lt
theorem OI.on {w w' : World} {t base : Nat} {A : Option Addr} {xs : List Int} (h : OI w t base A xs) (hb : Below w.heap.size w w') : OI w' t base A xs := by
  rcases h with ⟨rfl, rfl⟩ | ⟨g, cur, rfl, hg, hk, hp⟩
  · exact OI.nil_
  · exact .inr ⟨g, cur, rfl, hg, hk.on hb, hp⟩
end Go.Proofs.YtfdfjmibjnmhpaaGreat.B

namespace Go.Proofs.YtfdfjmibjnmhpaaGreat.V
open Go.RowKit Go.Proofs.YtfdfjmibjnmhpaaGreat.B

set_option maxHeartbeats 400000 in
theorem eqIntS_same (A C : Option Addr) (c d : Nat) (xs : List Int) (w : World) (hr : RdI w w.heap.size A xs) (hs : RdI w w.heap.size C xs) (hn : xs.length ≤ 16777216) :
    Calls Tryz.prog 11 #[.slice A xs.length c, .slice C xs.length d] w fun e w' => e = .returned (.bool true) ∧ Below w.heap.size w w' := by
  obtain ⟨n, hvn⟩ : ∃ n, xs.length = n := ⟨_, rfl⟩
  rw [hvn] at hn ⊢
  have HV := Lib.hid hvn; clear hvn
  go_enter Tryz.func11, Tryz.ntmps11
  go_wp2
  go_loopw [5] (fun i wr => ∃ (k : Nat), k ≤ n ∧ i = .int .i64 k ∧ Below w.heap.size w wr) (fun i _ => n - (intOf i).toNat)
  case atStart => exact ⟨0, Nat.zero_le _, rfl, Below.refl _ _⟩
  case round =>
    obtain ⟨k, hk, rfl, hbel⟩ := hrel
    by_cases hlt : k < n
    · obtain ⟨b, off, rfl, hb, hc0⟩ := (hr.below hbel).at_ (k := k) (by rw [HV.out]; omega)
      obtain ⟨b', off', rfl, hb', hc1⟩ := (hs.below hbel).at_ (k := k) (by rw [HV.out]; omega)
      clear hr hs
      generalize xs.getD k 0 = y at *
      have C0 := fun x : Lat wr => x.cell hc0
      have C1 := fun x : Lat wr => x.cell hc1
      have hne : (y != y) = false := by simp
      go_wp2
      refine wp_region_lat (by kernel_rfl) (by kernel_rfl) ?_
      repeat (go_big_quiet_step (fail))
      refine wpQuiet_nil ?_
      rintro _ ⟨⟨w3, hb3⟩, rfl⟩
      clear C0 C1
      go_wp2
      go_roundw
      case rel => exact ⟨k + 1, by omega, by go_num, hbel.trans (hb3.mono hbel.size)⟩
      case measure => simp [intOf]; omega
    · go_wp2
      go_ret
      exact ⟨rfl, hbel⟩

/-- The cells cs bear the marks k, k+1, .. as bytes in the n first places. -/
def MKI (cs : Array Value) (k : Int) (n : Nat) : Prop := ∀ i, i < n → cs[i]? = some (.int .i64 (k + i))

theorem MKI.step {cs : Array Value} {k : Int} {j : Nat} (h : MKI cs k j) (hs : j < cs.size) : MKI (cs.setIfInBounds j (.int .i64 (k + j))) k (j + 1) := by
  intro i hi
  by_cases e : i = j
  · subst e
    rw [Array.getElem?_setIfInBounds_self_of_lt hs]
  · rw [Array.getElem?_setIfInBounds_ne (by omega)]
    exact h i (by omega)
theorem only_setI {a w : World} {g : Nat} (h : a.grownBy w (some g)) (i : Nat) (u : Value) : a.grownBy (w.setCell ⟨g, i, none⟩ u) (some g) :=
  ⟨h.os, h.tape, h.output, by simpa [World.setCell] using h.size, fun j hj hne => (Below.heap_setCell w ⟨g, i, none⟩ u j (by
    rintro rfl
    exact hne rfl)).trans (h.block j hj hne)⟩

set_option maxHeartbeats 400000 in
theorem markI_any (g n c : Nat) (t : TypeId) (cs : Array Value) (k : Int) (w : World) (hb : Blk w g t cs) (hs : n ≤ cs.size) (hn : n ≤ 16777216) (h0 : 0 ≤ k) (h1 : k ≤ 16777216) :
    Calls Tryz.prog 14 #[.slice (some ⟨g, 0, none⟩) n c, .int .i64 k] w fun e w' =>
      e = .returned (.int .i64 (k + n)) ∧ ∃ cs', Blk w' g t cs' ∧ cs'.size = cs.size ∧ MKI cs' k n ∧ w.grownBy w' (some g) := by
  have HS := Lib.hid hs; clear hs
  go_enter Tryz.func14, Tryz.ntmps14
  go_wp2
  go_loopw [1, 5] (fun kk i wr => ∃ (j : Nat) (ds : Array Value), j ≤ n ∧ i = .int .i64 j ∧ kk = .int .i64 (k + j) ∧ Blk wr g t ds ∧ Hid (ds.size = cs.size) ∧ Hid (MKI ds k j) ∧ w.grownBy wr (some g)) (fun _ i _ => n - (intOf i).toNat)
  case atStart => exact ⟨0, cs, Nat.zero_le _, rfl, by simp, hb, rfl, fun i hi => absurd hi (by omega), World.grownBy.refl w _⟩
  case round =>
    obtain ⟨j, ds, hj, rfl, rfl, hblk, hsz, hmk, hgr⟩ := hrel
    by_cases hlt : j < n
    · have hx0 : ∃ y, ds[j]? = some y := ⟨_, Array.getElem?_eq_getElem (by have := hsz.out; have := HS.out; omega)⟩
      obtain ⟨y0, hx0⟩ := hx0
      have hc0 := (hblk.cell j).trans hx0
      have hf0 := hblk.frozen j
      have HM : Hid (MKI (ds.setIfInBounds j (.int .i64 (k + j))) k (j + 1)) := MKI.step hmk.out (by have := hsz.out; have := HS.out; omega)
      have HZ : Hid ((ds.setIfInBounds j (.int .i64 (k + j))).size = cs.size) := by rw [Array.size_setIfInBounds]; exact hsz.out
      clear hx0 hmk hsz
      go_wp2
      go_roundw
      case rel => exact ⟨j + 1, _, by omega, by go_num, by congr 1; simp; omega, hblk.set_ _ _, HZ, HM, only_setI hgr _ _⟩
      case measure => simp [intOf]; omega
    · have hjn : j = n := by omega
      subst hjn
      go_wp2
      go_ret
      exact ⟨rfl, ds, hblk, hsz.out, hmk.out, hgr⟩

set_option maxHeartbeats 400000 in
theorem heldI_any (g n c : Nat) (t : TypeId) (cs : Array Value) (k : Int) (w : World) (hb : Blk w g t cs) (hm : MKI cs k n) (hn : n ≤ 16777216) (h0 : 0 ≤ k) (h1 : k ≤ 16777216) :
    Calls Tryz.prog 15 #[.slice (some ⟨g, 0, none⟩) n c, .int .i64 k] w fun e w' => e = .returned (.int .i64 (k + n)) ∧ w = w' := by
  have HM := Lib.hid hm; clear hm
  go_enter Tryz.func15, Tryz.ntmps15
  go_wp2
  go_loop [1, 5] (fun kk i => ∃ (j : Nat), j ≤ n ∧ i = .int .i64 j ∧ kk = .int .i64 (k + j)) (fun _ i => n - (intOf i).toNat)
  case atStart => exact ⟨0, Nat.zero_le _, rfl, by simp⟩
  case round =>
    obtain ⟨j, hj, rfl, rfl⟩ := hrel
    by_cases hlt : j < n
    · have hc0 := (hb.cell j).trans (HM.out j hlt)
      have hne : ∀ i : Int, (i != i) = false := fun i => by simp
      go_wp2
      go_round
      case rel => exact ⟨j + 1, by omega, by go_num, by congr 1; simp; omega⟩
      case measure => simp [intOf]; omega
    · have hjn : j = n := by omega
      subst hjn
      go_wp2
      go_ret
      exact ⟨rfl, rfl⟩

theorem markI_nil (A : Option Addr) (c : Nat) (k : Int) (w : World) :
    Calls Tryz.prog 14 #[.slice A 0 c, .int .i64 k] w fun e w' => e = .returned (.int .i64 k) ∧ w = w' := by
  go_enter Tryz.func14, Tryz.ntmps14
  go_wp2
  refine wp_loop_rounds 1 ?_
  rw [rounds_succ]
  go_wp2
  go_ret
  exact ⟨rfl, rfl⟩
theorem heldI_nil (A : Option Addr) (c : Nat) (k : Int) (w : World) :
    Calls Tryz.prog 15 #[.slice A 0 c, .int .i64 k] w fun e w' => e = .returned (.int .i64 k) ∧ w = w' := by
  go_enter Tryz.func15, Tryz.ntmps15
  go_wp2
  refine wp_loop_rounds 1 ?_
  rw [rounds_succ]
  go_wp2
  go_ret
  exact ⟨rfl, rfl⟩

/-- Whatever row of the call's own it is: the marks are laid, and found again as long as the row is as it was. -/
def MI (w : World) (t base : Nat) (A : Option Addr) (n : Nat) (k : Int) : Prop := n = 0 ∨ ∃ g cur, A = some ⟨g, 0, none⟩ ∧ base ≤ g ∧ Blk w g t cur ∧ MKI cur k n
theorem MI.on {w w' : World} {t base n : Nat} {A : Option Addr} {k : Int} (h : MI w t base A n k) (hb : Below w.heap.size w w') : MI w' t base A n k := by
  rcases h with h | ⟨g, cur, rfl, hg, hk, hp⟩
  · exact .inl h
  · exact .inr ⟨g, cur, rfl, hg, hk.on hb, hp⟩
theorem markI_own (A : Option Addr) (c t base : Nat) (xs : List Int) (k : Int) (w : World) (h : OI w t base A xs) (hn : xs.length ≤ 16777216) (h0 : 0 ≤ k) (h1 : k ≤ 16777216) :
    Calls Tryz.prog 14 #[.slice A xs.length c, .int .i64 k] w fun e w' =>
      e = .returned (.int .i64 (k + xs.length)) ∧ MI w' t base A xs.length k ∧ Below base w w' := by
  rcases h with ⟨rfl, rfl⟩ | ⟨g, cur, rfl, hg, hb, hp⟩
  · refine (markI_nil none c k w).mono ?_
    rintro e w' ⟨rfl, rfl⟩
    exact ⟨by simp, .inl rfl, Below.refl _ _⟩
  · refine (markI_any g xs.length c t cur k w hb hp.1 hn h0 h1).mono ?_
    rintro e w' ⟨rfl, ds, hd, _, hm, hgr⟩
    refine ⟨rfl, .inr ⟨g, ds, rfl, hg, hd, hm⟩, hgr.os, hgr.tape, hgr.output, hgr.size, fun i hi => hgr.block i (by have := hb.lt; omega) (by simp; omega)⟩
theorem heldI_own (A : Option Addr) (c t base n : Nat) (k : Int) (w : World) (h : MI w t base A n k) (hn : n ≤ 16777216) (h0 : 0 ≤ k) (h1 : k ≤ 16777216) :
    Calls Tryz.prog 15 #[.slice A n c, .int .i64 k] w fun e w' => e = .returned (.int .i64 (k + n)) ∧ w = w' := by
  rcases h with rfl | ⟨g, cur, rfl, _, hb, hm⟩
  · refine (heldI_nil A c k w).mono ?_
    rintro e w' ⟨rfl, rfl⟩
    exact ⟨by simp, rfl⟩
  · exact heldI_any g n c t cur k w hb hm hn h0 h1
end Go.Proofs.YtfdfjmibjnmhpaaGreat.V

namespace Go.Proofs.YtfdfjmibjnmhpaaGreat.B
open Go.RowKit
theorem OI.up {w : World} {t base : Nat} {A : Option Addr} {xs : List Int} (h : OI w t base A xs) (O : Obj) : OI (w.alloc O) t base A xs := h.on ((Below.refl _ _).alloc (Nat.le_refl _) O)
theorem OI.lt {w : World} {t base : Nat} {A : Option Addr} {xs : List Int} (h : OI w t base A xs) : ∀ g, A = some ⟨g, 0, none⟩ → g < w.heap.size := by
  intro g' e
  rcases h with ⟨rfl, rfl⟩ | ⟨g, cur, rfl, _, hk, _⟩
  · cases e
  · injection e with e
    injection e with e
    subst e
    exact hk.lt
theorem OI.ge {w : World} {t base : Nat} {A : Option Addr} {xs : List Int} (h : OI w t base A xs) : ∀ g, A = some ⟨g, 0, none⟩ → base ≤ g := by
  intro g' e
  rcases h with ⟨rfl, rfl⟩ | ⟨g, cur, rfl, hg, _, _⟩
  · cases e
  · injection e with e
    injection e with e
    subst e
    exact hg
theorem OI.keep {w w' : World} {t base : Nat} {A : Option Addr} {xs : List Int} {row : Option Nat} (h : OI w t base A xs) (hgr : w.grownBy w' row) (hne : ∀ g', A = some ⟨g', 0, none⟩ → row ≠ some g') : OI w' t base A xs := by
  rcases h with ⟨rfl, rfl⟩ | ⟨g', cur, rfl, hb, hk, hp⟩
  · exact OI.nil_
  · exact .inr ⟨g', cur, rfl, hb, (hgr.block g' hk.lt (fun e => hne g' rfl e.symm)).trans hk, hp⟩
theorem OI.low {w w' : World} {t base Bd : Nat} {A : Option Addr} {xs : List Int} (h : OI w t base A xs) (hb : Below Bd w w') (hl : ∀ g', A = some ⟨g', 0, none⟩ → g' < Bd) : OI w' t base A xs := by
  rcases h with ⟨rfl, rfl⟩ | ⟨g, cur, rfl, hg, hk, hp⟩
  · exact OI.nil_
  · exact .inr ⟨g, cur, rfl, hg, hk.below hb (hl g rfl), hp⟩
theorem keepK {w w' : World} {g : Nat} {t : TypeId} {cs : Array Value} {row : Option Nat} (h : Blk w g t cs) (hgr : w.grownBy w' row) (hne : row ≠ some g) : Blk w' g t cs := (hgr.block g h.lt (fun e => hne e.symm)).trans h
theorem keepL {w w' : World} {base : Nat} {row : Option Nat} (hgr : w.grownBy w' row) (hg : ∀ g, row = some g → base ≤ g) (hw : base ≤ w.heap.size) : Below base w w' :=
  ⟨hgr.os, hgr.tape, hgr.output, hgr.size, fun i hi => hgr.block i (by omega) (fun e => by have := hg i e.symm; omega)⟩
end Go.Proofs.YtfdfjmibjnmhpaaGreat.B
namespace Go.Proofs.YtfdfjmibjnmhpaaGreat.V
open Go.RowKit Go.Proofs.YtfdfjmibjnmhpaaGreat.B
/-- Numbers of the call's own, as the laws read them. -/
def NRes2 (xs : List Int) (w : World) (e : Ending) (w' : World) : Prop :=
  ∃ A d, e = .returned (.slice A xs.length d) ∧ OI w' 3 w.heap.size A xs ∧ Below w.heap.size w w'
theorem nres_of {xs : List Int} {w : World} {e : Ending} {w' : World} (h : NRes xs w e w') : NRes2 xs w e w' := by
  obtain ⟨v, rfl, ho, hb⟩ := h
  obtain ⟨A, c, rfl⟩ : ∃ A c, v = .slice A xs.length c := by
    obtain ⟨_, ⟨rfl, h0⟩ | ⟨g, cap, cur, rfl, _⟩⟩ := ho
    · exact ⟨none, 0, by rw [h0]⟩
    · exact ⟨_, _, rfl⟩
  exact ⟨A, c, rfl, (OI.of_own ho).2, hb⟩
end Go.Proofs.YtfdfjmibjnmhpaaGreat.V

namespace Go.Proofs.YtfdfjmibjnmhpaaGreat.V
open Go.RowKit Go.Proofs.YtfdfjmibjnmhpaaGreat.B

/-- Who of the first k does not lie. -/
def honK (bad : List Bool) (k : Nat) : List Int := ((List.range k).filter fun i => !(bad.getD i false)).map fun (i : Nat) => (i : Int)
def honC (d : Cd) : List Int := if cluB d then honK d.bad d.bad.length else []
theorem honK_step (bad : List Bool) (k : Nat) : honK bad (k + 1) = honK bad k ++ (if bad.getD k false then [] else [(k : Int)]) := by
  unfold honK
  rw [List.range_succ, List.filter_append, List.map_append, List.filter_cons, List.filter_nil]
  cases bad.getD k false <;> rfl
theorem honK_len (bad : List Bool) (k : Nat) : (honK bad k).length ≤ k := by
  unfold honK
  rw [List.length_map]
  exact Nat.le_trans (List.length_filter_le _ _) (by simp)
theorem clu_bad {d : Cd} (h : cluB d = true) : (d.bad.length : Int) = d.n ∧ (d.rs.length : Int) = d.n ∧ (d.n = 4 ∨ d.n = 7) := by
  unfold cluB lensC flagsB at h
  simp only [Bool.and_eq_true, decide_eq_true_eq] at h
  exact ⟨h.2.1.1, h.2.2.1.1, size_two h.1⟩

set_option maxHeartbeats 3200000 in
theorem implHonest_is (q : Cq) (w : World) (hr : RdC4 w w.heap.size q) (hf : FewC q) :
    Calls Tryz.prog 10 #[q.agg] w (NRes (honC q.dat) w) := by
  obtain ⟨i0, hi0, hz0, hz1, hz2⟩ := info_parts infoI
  obtain ⟨g, hg⟩ : ∃ g, cluB q.dat = g := ⟨_, rfl⟩
  have HC := Lib.hid (fun (W : World) (h : Below w.heap.size w W) => implClusterOk_is g q hg W ((hr.below h).more h.size) hf)
  have hz' : honC q.dat = (if g then honK q.bad q.bad.length else []) := by rw [← hg]; rfl
  have hl : g = true → q.bad.length ≤ 7 := fun e => by
    obtain ⟨h1, h2, h3⟩ := clu_bad (hg.trans e)
    have h1 : (q.bad.length : Int) = q.n := h1
    have h3 : q.n = 4 ∨ q.n = 7 := h3
    omega
  rw [hz']
  obtain ⟨n, bad, rs, nt, Ab, Ar, An, cb, cr, cn⟩ := q
  obtain ⟨rb, rr, rn⟩ := hr
  simp only [Cq.agg, Cq.cells] at *
  obtain ⟨lb, elb⟩ : ∃ m, bad.length = m := ⟨_, rfl⟩
  obtain ⟨lr, elr⟩ : ∃ m, rs.length = m := ⟨_, rfl⟩
  obtain ⟨ln, eln⟩ : ∃ m, nt.length = m := ⟨_, rfl⟩
  simp only [elb, elr, eln] at HC hl ⊢
  obtain ⟨L, hL⟩ : ∃ L : List Int, (if g then honK bad lb else []) = L := ⟨_, rfl⟩
  rw [hL]
  have HLL := Lib.hid hL; clear hL
  have HL := Lib.hid hl; have ELB := Lib.hid elb; have RB := Lib.hid rb
  clear hz' hl elb elr eln rb rr rn hg hf
  have ka := Blk.new w 33 #[.int .i64 n, .slice Ab lb cb, .slice Ar lr cr, .slice An ln cn]
  have hB := up_ (Below.refl w.heap.size w) (.cells #[.int .i64 n, .slice Ab lb cb, .slice Ar lr cr, .slice An ln cn] 33)
  have ra := ka.rule
  have HBX : Hid (∀ wr, Below (w.heap.size + 1) (w.alloc (.cells #[.int .i64 n, .slice Ab lb cb, .slice Ar lr cr, .slice An ln cn] 33)) wr → Blk wr w.heap.size 33 #[.int .i64 n, .slice Ab lb cb, .slice Ar lr cr, .slice An ln cn] ∧ Below w.heap.size w wr ∧ w.heap.size + 1 ≤ wr.heap.size) := fun wr h => ⟨ka.below h (by omega), Below.trans ((Below.refl _ _).alloc (Nat.le_refl _) _) (h.mono (by omega)), by have := h.size; simpa using this⟩
  go_enter Tryz.func10, Tryz.ntmps10
  go_wp2_with fail
  refine (HC.out _ hB).mono ?_
  rintro e w1 ⟨rfl, hb⟩
  have hb1 : Below (w.heap.size + 1) (w.alloc (.cells #[.int .i64 n, .slice Ab lb cb, .slice Ar lr cr, .slice An ln cn] 33)) w1 := by simpa using hb
  have ka' := ka.on hb; have hB' := on_ hB hb; clear ka hB ra hb; have ka := ka'; have hB := hB'; clear ka' hB'; have ra := ka.rule
  rcases g with _ | _
  · go_wp2
    go_ret
    have e0 : L = [] := HLL.out.symm
    rw [e0]
    exact ⟨.slice none 0 0, rfl, World.ownsRow_nil _ _ _ _, hB⟩
  · have hlb := HL.out rfl
    clear ka hB HL HC
    go_wp2
    go_loopw [3, 12] (fun out i wr => ∃ (k : Nat) (xs : List Int), k ≤ lb ∧ i = .int .i64 k ∧ Hid (honK bad k = xs) ∧ xs.length ≤ k ∧ wr.ownsRow (w.heap.size + 1) 3 1 out xs.length (ic xs) ∧ Below (w.heap.size + 1) (w.alloc (.cells #[.int .i64 n, .slice Ab lb cb, .slice Ar lr cr, .slice An ln cn] 33)) wr) (fun _ i _ => lb - (intOf i).toNat)
    case atStart => exact ⟨0, [], Nat.zero_le _, rfl, rfl, Nat.le_refl _, World.ownsRow_nil _ _ _ _, hb1⟩
    case round =>
      clear ra hb1
      obtain ⟨k, xs, hk, rfl, hxs, hxl, hown, hbel⟩ := hrel
      obtain ⟨ka, hB, hsz⟩ := HBX.out wr hbel
      have ra := ka.rule
      by_cases hlt : k < lb
      · obtain ⟨b_, off, rfl, hb, hcs, hrv⟩ := RdK.at_ (RB.out.below hB) (k := k) (by rw [ELB.out]; omega)
        clear hrv
        change ∀ j, j < 1 → wr.cell? ⟨b_, off + k * 1 + j, none⟩ = (KB.cells (bad.getD k false))[j]? at hcs
        have hst := honK_step bad k
        rw [hxs.out] at hst
        obtain ⟨u, hu⟩ : ∃ u, bad.getD k false = u := ⟨_, rfl⟩
        rw [hu] at hcs hst
        have hc0 : wr.cell? ⟨b_, off + k, none⟩ = some (.bool u) := by have := hcs 0 (by decide); simpa [KB] using this
        have HST := Lib.hid hst
        clear hcs hu hst
        rcases u with _ | _
        · have HN : Hid (honK bad (k + 1) = xs ++ [(k : Int)]) := by show _ = _; rw [HST.out]; rfl
          go_wp2_with (at_builtin; refine wpList_append_any _ rfl (.tmp 19) (.tmp 21) 28 rfl (w.heap.size + 1) 3 i0 _ 1 8 Tryz.underlying28 hi0 hz0 hz1 hz2 rfl (by omega) u3 xs.length (ic xs) rfl (hown.alloc _) _ _ 1 1 [.int .i64 (k : Int)] rfl (lit_int wr _) (by simp [Value.oneCell']) (by simp only [maxLen]; omega) (by omega) (by simp; omega) ?_; intro v2 w2 hown2 hgr2 hat2; have hbel2 := (hbel.alloc hsz _).grown hgr2 (by simp; omega) (fun j hj => (hown.lt j hj).1))
          go_roundw
          case rel => exact ⟨k + 1, xs ++ [(k : Int)], by omega, by go_num, HN, by simp; omega, own_app1 hown2, hbel2⟩
          case measure => simp [intOf]; omega
        · have HN : Hid (honK bad (k + 1) = xs) := by show _ = _; rw [HST.out]; simp
          go_wp2
          go_roundw
          case rel => exact ⟨k + 1, xs, by omega, by go_num, HN, by omega, hown, hbel⟩
          case measure => simp [intOf]; omega
      · obtain rfl : k = lb := by omega
        go_wp2
        go_ret
        refine ⟨_, rfl, ?_, hB⟩
        have e0 : L = xs := by rw [← HLL.out]; exact hxs.out
        rw [e0]
        exact own_more3 hown (by omega)
end Go.Proofs.YtfdfjmibjnmhpaaGreat.V

namespace Go.Proofs.YtfdfjmibjnmhpaaGreat.V
open Go.RowKit Go.Proofs.YtfdfjmibjnmhpaaGreat.B

theorem form_row {w : World} {base e size n : Nat} {v : Value} {xs : List Value} (h : w.ownsRow base e size v n xs) : ∃ A c, v = .slice A n c := by
  rcases h.2 with ⟨rfl, rfl⟩ | ⟨g, cap, cur, rfl, _⟩
  · exact ⟨none, 0, rfl⟩
  · exact ⟨_, _, rfl⟩
/-- The greatest view of the first k that do not lie. -/
def latK (bad : List Bool) (rs : List Rd4) : Nat → Int
  | 0 => -1
  | k + 1 => if bad.getD k false then latK bad rs k else max (latK bad rs k) (rs.getD k zD).view
def latC (d : Cd) : Int := if cluB d then latK d.bad d.rs d.bad.length else -1
def stepL (rs : List Rd4) (a : Int) (i : Int) : Int := max a (rs.getD i.toNat zD).view
theorem lat_fold (bad : List Bool) (rs : List Rd4) : ∀ k, latK bad rs k = (honK bad k).foldl (stepL rs) (-1)
  | 0 => rfl
  | k + 1 => by
    rw [honK_step, List.foldl_append, ← lat_fold bad rs k, latK]
    cases bad.getD k false <;> rfl
theorem hon_mem (bad : List Bool) (k j : Nat) (h : j < (honK bad k).length) : ∃ i : Nat, (honK bad k).getD j 0 = (i : Int) ∧ i < k := by
  have hm : (honK bad k).getD j 0 ∈ honK bad k := by
    rw [List.getD_eq_getElem?_getD, List.getElem?_eq_getElem h]
    exact List.getElem_mem h
  unfold honK at hm
  rw [List.mem_map] at hm
  obtain ⟨i, hi, e⟩ := hm
  rw [List.mem_filter] at hi
  exact ⟨i, by unfold honK; exact e.symm, List.mem_range.1 hi.1⟩
theorem view_ok {r : Rd4} (h : repQ r = true) : 0 ≤ r.view ∧ r.view ≤ 9 := by
  unfold repQ headQ at h
  simp only [Bool.and_eq_true, decide_eq_true_eq] at h
  have := h.1.2.2.2.2.1
  unfold viewOkB at this
  simpa using this
theorem clu_rep {d : Cd} (h : cluB d = true) : ∀ i, i < d.rs.length → repQ (d.rs.getD i zD) = true := fun i hi => by
  unfold cluB repsB at h
  simp only [Bool.and_eq_true] at h
  have h4 := h.2.2.2.1
  rw [List.all_eq_true] at h4
  have := h4 i (List.mem_range.2 hi)
  unfold goodP at this
  simp only [Bool.and_eq_true] at this
  exact this.1
/-- What is known of a valid cluster in memory. -/
theorem clu_mem {q : Cq} (h : cluB q.dat = true) : q.bad.length = q.rs.length ∧ q.rs.length ≤ 7 ∧ (q.n = (q.rs.length : Int)) ∧ ∀ i, i < q.rs.length → 0 ≤ (q.rs.getD i zQ).view ∧ (q.rs.getD i zQ).view ≤ 9 := by
  obtain ⟨h1, h2, h3⟩ := clu_bad h
  have h1 : (q.bad.length : Int) = q.n := h1
  have h2 : ((q.rs.map Rq.dat).length : Int) = q.n := h2
  have h3 : q.n = 4 ∨ q.n = 7 := h3
  rw [List.length_map] at h2
  refine ⟨by omega, by omega, h2.symm, fun i hi => ?_⟩
  have := view_ok (clu_rep h i (by show i < (q.rs.map Rq.dat).length; rw [List.length_map]; exact hi))
  rw [show q.dat.rs.getD i zD = (q.rs.getD i zQ).dat from dat_at q.rs i] at this
  exact this
theorem lat_bounds (bad : List Bool) (rs : List Rd4) (h : ∀ i, i < rs.length → 0 ≤ (rs.getD i zD).view ∧ (rs.getD i zD).view ≤ 9) : ∀ k, k ≤ rs.length → -1 ≤ latK bad rs k ∧ latK bad rs k ≤ 9
  | 0, _ => ⟨by simp [latK], by simp [latK]⟩
  | k + 1, hk => by
    have h1 := lat_bounds bad rs h k (by omega)
    have h2 := h k (by omega)
    rw [latK]
    cases bad.getD k false
    · simp only [Bool.false_eq_true, if_false]
      omega
    · simpa using h1

end Go.Proofs.YtfdfjmibjnmhpaaGreat.V

namespace Go.Proofs.YtfdfjmibjnmhpaaGreat.V
open Go.RowKit Go.Proofs.YtfdfjmibjnmhpaaGreat.B

theorem fold_take (rs : List Rd4) (xs : List Int) (k : Nat) (h : k < xs.length) : (xs.take (k + 1)).foldl (stepL rs) (-1) = stepL rs ((xs.take k).foldl (stepL rs) (-1)) (xs.getD k 0) := by
  rw [take_getD xs 0 k h, List.foldl_append]
  rfl
end Go.Proofs.YtfdfjmibjnmhpaaGreat.V

namespace Go.Proofs.YtfdfjmibjnmhpaaGreat.V
open Go.RowKit Go.Proofs.YtfdfjmibjnmhpaaGreat.B

def dnAt (rs : List Rd4) (i : Int) : Int := (rs.getD i.toNat zD).dn
/-- What those of xs have decided, in order. -/
def decF (rs : List Rd4) (xs : List Int) : List Int := (xs.map (dnAt rs)).filter fun v => decide (v ≠ 0)
def decC (d : Cd) : List Int := decF d.rs (honC d)
theorem decF_app (rs : List Rd4) (xs : List Int) (i : Int) : decF rs (xs ++ [i]) = decF rs xs ++ (if dnAt rs i = 0 then [] else [dnAt rs i]) := by
  unfold decF
  rw [List.map_append, List.filter_append]
  by_cases h : dnAt rs i = 0 <;> simp [h]
theorem decF_len (rs : List Rd4) (xs : List Int) : (decF rs xs).length ≤ xs.length := by
  unfold decF
  exact Nat.le_trans (List.length_filter_le _ _) (by simp)
theorem decF_step (bad : List Bool) (rs : List Rd4) (k : Nat) : decF rs (honK bad (k + 1)) = decF rs (honK bad k) ++ (if bad.getD k false then [] else if (rs.getD k zD).dn = 0 then [] else [(rs.getD k zD).dn]) := by
  rw [honK_step]
  cases bad.getD k false
  · simp only [Bool.false_eq_true, if_false]
    rw [decF_app]
    rfl
  · simp
theorem done_ok {r : Rd4} (h : repQ r = true) : 0 ≤ r.dn ∧ r.dn ≤ 60 := by
  unfold repQ at h
  simp only [Bool.and_eq_true] at h
  have := h.2.2.1
  unfold doneQ valOkB at this
  simp at this
  omega
theorem clu_done {q : Cq} (h : cluB q.dat = true) : ∀ i, i < q.rs.length → 0 ≤ (q.rs.getD i zQ).dn ∧ (q.rs.getD i zQ).dn ≤ 60 := fun i hi => by
  have := done_ok (clu_rep h i (by show i < (q.rs.map Rq.dat).length; rw [List.length_map]; exact hi))
  rw [show q.dat.rs.getD i zD = (q.rs.getD i zQ).dat from dat_at q.rs i] at this
  exact this

end Go.Proofs.YtfdfjmibjnmhpaaGreat.V

namespace Go.Proofs.YtfdfjmibjnmhpaaGreat.V
open Go.RowKit Go.Proofs.YtfdfjmibjnmhpaaGreat.B

def allEq (L : List Int) : Bool := L.all fun x => decide (x = L.getD 0 0)
def agrC (d : Cd) : Bool := cluB d && allEq (decC d)
def neB (y x : Int) : Bool := !(decide (x = y))
theorem any_ne (L : List Int) : L.any (neB (L.getD 0 0)) = !(allEq L) := any_not _ L
theorem OI.far {w : World} {t base : Nat} {A : Option Addr} {xs : List Int} (h : OI w t base A xs) {p : Addr} (hp : p.block < base) (u : Value) : OI (w.setCell p u) t base A xs :=
  h.imp id fun ⟨g, cur, e, hg, hb, hq⟩ => ⟨g, cur, e, hg, hb.far (by omega) u, hq⟩

theorem take_anyI (p : Int → Bool) (l : List Int) (j : Nat) (h : j < l.length) : (l.take (j + 1)).any p = ((l.take j).any p || p (l.getD j 0)) := by
  rw [take_getD l 0 j h, List.any_append]
  simp
/-- The list so far is how the whole begins. -/
theorem dec_more (bad : List Bool) (rs : List Rd4) (k n : Nat) (h : k ≤ n) : ∃ zs, decF rs (honK bad n) = decF rs (honK bad k) ++ zs := by
  induction n with
  | zero => obtain rfl : k = 0 := by omega
            exact ⟨[], by simp⟩
  | succ n ih =>
    by_cases e : k = n + 1
    · subst e; exact ⟨[], by simp⟩
    · obtain ⟨zs, hz⟩ := ih (by omega)
      exact ⟨zs ++ (if bad.getD n false then [] else if (rs.getD n zD).dn = 0 then [] else [(rs.getD n zD).dn]), by rw [decF_step, hz, List.append_assoc]⟩
theorem allEq_no {ys zs : List Int} {v d : Int} (h0 : ys ≠ []) (hv : ys.getD 0 0 = v) (hd : d ≠ v) : allEq (ys ++ [d] ++ zs) = false := by
  cases ys with
  | nil => exact absurd rfl h0
  | cons a l =>
    have ha : a = v := by simpa using hv
    unfold allEq
    rw [List.all_eq_false]
    refine ⟨d, by simp, ?_⟩
    simp [ha, hd]
theorem allEq_app {ys : List Int} {d : Int} (h : allEq ys = true) (hd : ys = [] ∨ ys.getD 0 0 = d) : allEq (ys ++ [d]) = true := by
  cases ys with
  | nil => simp [allEq]
  | cons a l =>
    have ha : a = d := by simpa using hd
    unfold allEq at *
    subst ha
    simp only [List.cons_append, List.all_cons, List.all_append, List.getD_cons_zero] at *
    simp at *
    exact h

end Go.Proofs.YtfdfjmibjnmhpaaGreat.V

namespace Go.Proofs.YtfdfjmibjnmhpaaGreat.V
open Go.RowKit Go.Proofs.YtfdfjmibjnmhpaaGreat.B

def verL : List Int → Int × Bool
  | [] => (0, false)
  | a :: l => (a, allEq (a :: l))
def okV (p : Int × Bool) : Int × Bool := if p.2 then (p.1, true) else (0, false)
def verC (d : Cd) : Int × Bool := if cluB d then okV (verL (decC d)) else (0, false)

end Go.Proofs.YtfdfjmibjnmhpaaGreat.V
