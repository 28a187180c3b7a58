/-
  Rows of numbers: how they read, comparison, marks. No statement is proved here.
-/
import Derived.Test.YtfdfjmibjnmhpaaBal2
import Derived.Test.YtfdfjmibjnmhpaaTallyVoters
set_option linter.unusedVariables false
set_option maxRecDepth 100000
namespace Go.Proofs.Ytfdfjmibjnmhpaa.B
open Go.RowKit

/-- A slice value at address A reads, below block Bd, as the bytes xs. -/
def RdI (w : World) (Bd : Nat) (A : Option Addr) (xs : List Int) : Prop :=
  0 < xs.length → ∃ b off, A = some ⟨b, off, none⟩ ∧ b < Bd ∧ ∀ i, i < xs.length → w.cell? ⟨b, off + i, none⟩ = some (.int .i64 (xs.getD i 0))
section
variable {w w' : World} {Bd Bd' : Nat} {A : Option Addr} {xs : List Int}
theorem RdI.keep (h : RdI w Bd A xs) (hk : ∀ b o, b < Bd → w'.cell? ⟨b, o, none⟩ = w.cell? ⟨b, o, none⟩) : RdI w' Bd A xs := fun hn => by
  obtain ⟨b, off, e, hb, hc⟩ := h hn
  exact ⟨b, off, e, hb, fun i hi => (hk _ _ hb).trans (hc i hi)⟩
theorem RdI.more (h : RdI w Bd A xs) (hB : Bd ≤ Bd') : RdI w Bd' A xs := fun hn => by
  obtain ⟨b, off, e, hb, hc⟩ := h hn
  exact ⟨b, off, e, by omega, hc⟩
theorem RdI.below (h : RdI w Bd A xs) (hb : Below Bd w w') : RdI w' Bd A xs := h.keep fun _ _ hp => hb.cell hp
theorem RdI.alloc (h : RdI w Bd A xs) (hB : Bd ≤ w.heap.size) (o : Obj) : RdI (w.alloc o) Bd A xs := h.keep fun b o' hp => World.cell?_alloc_lt w o ⟨b, o', none⟩ (by simpa using (show b < w.heap.size by omega))
theorem RdI.on (h : RdI w w.heap.size A xs) (hb : Below w.heap.size w w') : RdI w' w'.heap.size A xs := (h.below hb).more hb.size
theorem RdI.up (h : RdI w w.heap.size A xs) (O : Obj) : RdI (w.alloc O) (w.alloc O).heap.size A xs := (h.alloc (Nat.le_refl _) O).more (by simp)
theorem RdI.nil_ : RdI w Bd A [] := fun h => absurd h (by simp)
theorem RdI.at_ (h : RdI w Bd A xs) {k : Nat} (hk : k < xs.length) : ∃ b off, A = some ⟨b, off, none⟩ ∧ b < Bd ∧ w.cell? ⟨b, off + k, none⟩ = some (.int .i64 (xs.getD k 0)) := by
  obtain ⟨b, off, rfl, hb, hc⟩ := h (by omega)
  exact ⟨b, off, rfl, hb, hc k hk⟩
end

/-- The first k bytes of xs stand in the cells cs. -/
def PI (cs : Array Value) (xs : List Int) (k : Nat) : Prop := xs.length ≤ cs.size ∧ ∀ i, i < k → cs[i]? = some (.int .i64 (xs.getD i 0))
theorem PI.zero {cs : Array Value} {xs : List Int} (h : xs.length ≤ cs.size) : PI cs xs 0 := ⟨h, fun i hi => absurd hi (by omega)⟩
theorem PI.step {cs : Array Value} {xs : List Int} {k : Nat} (h : PI cs xs k) (hk : k < xs.length) : PI (cs.setIfInBounds k (.int .i64 (xs.getD k 0))) xs (k + 1) := by
  refine ⟨by simpa using h.1, fun i hi => ?_⟩
  have hs := h.1
  by_cases e : i = k
  · subst e
    rw [Array.getElem?_setIfInBounds_self_of_lt (by omega)]
  · rw [Array.getElem?_setIfInBounds_ne (by omega)]
    exact h.2 i (by omega)
theorem PI.rd {w : World} {g t Bd : Nat} {cs : Array Value} {xs : List Int} (h : PI cs xs xs.length) (hb : Blk w g t cs) (hg : g < Bd) : RdI w Bd (some ⟨g, 0, none⟩) xs :=
  fun _ => ⟨g, 0, rfl, hg, fun i hi => by rw [Nat.zero_add, hb.cell]; exact h.2 i hi⟩

/-- A slice of bytes of the call's own: nil, or a row of its own whose first cells are xs. -/
def OI (w : World) (t base : Nat) (A : Option Addr) (xs : List Int) : Prop := (A = none ∧ xs = []) ∨ ∃ g cur, A = some ⟨g, 0, none⟩ ∧ base ≤ g ∧ Blk w g t cur ∧ PI cur xs xs.length
theorem OI.nil_ {w : World} {t base : Nat} : OI w t base none [] := .inl ⟨rfl, rfl⟩
theorem OI.of_own {w : World} {base t n c : Nat} {A : Option Addr} {xs : List Int} (h : w.ownsRow base t 1 (.slice A n c) n (xs.map (Value.int .i64))) : n = xs.length ∧ OI w t base A xs := by
  obtain ⟨hl, h⟩ := h
  have hn : n = xs.length := by simpa using hl.symm
  refine ⟨hn, ?_⟩
  rcases h with ⟨h1, h2⟩ | ⟨g, cap, cur, h1, h2, h3, h4, h5, h6, h7⟩
  · injection h1 with h1
    exact .inl ⟨h1, List.eq_nil_of_length_eq_zero (by omega)⟩
  · injection h1 with h1
    refine .inr ⟨g, cur, h1, h2, h3, by omega, fun i hi => ?_⟩
    have hi' : i < n := by omega
    have : (cur.toList.take (n * 1))[i]? = some (.int .i64 (xs.getD i 0)) := by
      rw [h7]
      simp [List.getD, List.getElem?_eq_getElem hi]
    rw [List.getElem?_take_of_lt (by omega)] at this
    simpa using this
theorem OI.rd {w : World} {t base : Nat} {A : Option Addr} {xs : List Int} (h : OI w t base A xs) : RdI w w.heap.size A xs := by
  rcases h with ⟨rfl, rfl⟩ | ⟨g, cur, rfl, _, hb, hp⟩
  · exact RdI.nil_
  · exact hp.rd hb hb.lt
theorem OI.on {w w' : World} {t base : Nat} {A : Option Addr} {xs : List Int} (h : OI w t base A xs) (hb : Below w.heap.size w w') : OI w' t base A xs := by
  rcases h with ⟨rfl, rfl⟩ | ⟨g, cur, rfl, hg, hk, hp⟩
  · exact OI.nil_
  · exact .inr ⟨g, cur, rfl, hg, hk.on hb, hp⟩
end Go.Proofs.Ytfdfjmibjnmhpaa.B

namespace Go.Proofs.Ytfdfjmibjnmhpaa.V
open Go.RowKit Go.Proofs.Ytfdfjmibjnmhpaa.B

set_option maxHeartbeats 400000 in
theorem eqIntS_same (A C : Option Addr) (c d : Nat) (xs : List Int) (w : World) (hr : RdI w w.heap.size A xs) (hs : RdI w w.heap.size C xs) (hn : xs.length ≤ 16777216) :
    Calls Try.prog 21 #[.slice A xs.length c, .slice C xs.length d] w fun e w' => e = .returned (.bool true) ∧ Below w.heap.size w w' := by
  obtain ⟨n, hvn⟩ : ∃ n, xs.length = n := ⟨_, rfl⟩
  rw [hvn] at hn ⊢
  have HV := Lib.hid hvn; clear hvn
  go_enter Try.func21, Try.ntmps21
  go_wp2
  go_loopw [5] (fun i wr => ∃ (k : Nat), k ≤ n ∧ i = .int .i64 k ∧ Below w.heap.size w wr) (fun i _ => n - (intOf i).toNat)
  case atStart => exact ⟨0, Nat.zero_le _, rfl, Below.refl _ _⟩
  case round =>
    obtain ⟨k, hk, rfl, hbel⟩ := hrel
    by_cases hlt : k < n
    · obtain ⟨b, off, rfl, hb, hc0⟩ := (hr.below hbel).at_ (k := k) (by rw [HV.out]; omega)
      obtain ⟨b', off', rfl, hb', hc1⟩ := (hs.below hbel).at_ (k := k) (by rw [HV.out]; omega)
      clear hr hs
      generalize xs.getD k 0 = y at *
      have C0 := fun x : Lat wr => x.cell hc0
      have C1 := fun x : Lat wr => x.cell hc1
      have hne : (y != y) = false := by simp
      go_wp2
      refine wp_region_lat (by kernel_rfl) (by kernel_rfl) ?_
      repeat (go_big_quiet_step (fail))
      refine wpQuiet_nil ?_
      rintro _ ⟨⟨w3, hb3⟩, rfl⟩
      clear C0 C1
      go_wp2
      go_roundw
      case rel => exact ⟨k + 1, by omega, by go_num, hbel.trans (hb3.mono hbel.size)⟩
      case measure => simp [intOf]; omega
    · go_wp2
      go_ret
      exact ⟨rfl, hbel⟩

/-- The cells cs bear the marks k, k+1, .. as bytes in the n first places. -/
def MKI (cs : Array Value) (k : Int) (n : Nat) : Prop := ∀ i, i < n → cs[i]? = some (.int .i64 (k + i))

theorem MKI.step {cs : Array Value} {k : Int} {j : Nat} (h : MKI cs k j) (hs : j < cs.size) : MKI (cs.setIfInBounds j (.int .i64 (k + j))) k (j + 1) := by
  intro i hi
  by_cases e : i = j
  · subst e
    rw [Array.getElem?_setIfInBounds_self_of_lt hs]
  · rw [Array.getElem?_setIfInBounds_ne (by omega)]
    exact h i (by omega)
theorem only_setI {a w : World} {g : Nat} (h : a.grownBy w (some g)) (i : Nat) (u : Value) : a.grownBy (w.setCell ⟨g, i, none⟩ u) (some g) :=
  ⟨h.os, h.tape, h.output, by simpa [World.setCell] using h.size, fun j hj hne => (Below.heap_setCell w ⟨g, i, none⟩ u j (by
    rintro rfl
    exact hne rfl)).trans (h.block j hj hne)⟩

set_option maxHeartbeats 400000 in
theorem markI_any (g n c : Nat) (t : TypeId) (cs : Array Value) (k : Int) (w : World) (hb : Blk w g t cs) (hs : n ≤ cs.size) (hn : n ≤ 16777216) (h0 : 0 ≤ k) (h1 : k ≤ 16777216) :
    Calls Try.prog 22 #[.slice (some ⟨g, 0, none⟩) n c, .int .i64 k] w fun e w' =>
      e = .returned (.int .i64 (k + n)) ∧ ∃ cs', Blk w' g t cs' ∧ cs'.size = cs.size ∧ MKI cs' k n ∧ w.grownBy w' (some g) := by
  have HS := Lib.hid hs; clear hs
  go_enter Try.func22, Try.ntmps22
  go_wp2
  go_loopw [1, 5] (fun kk i wr => ∃ (j : Nat) (ds : Array Value), j ≤ n ∧ i = .int .i64 j ∧ kk = .int .i64 (k + j) ∧ Blk wr g t ds ∧ Hid (ds.size = cs.size) ∧ Hid (MKI ds k j) ∧ w.grownBy wr (some g)) (fun _ i _ => n - (intOf i).toNat)
  case atStart => exact ⟨0, cs, Nat.zero_le _, rfl, by simp, hb, rfl, fun i hi => absurd hi (by omega), World.grownBy.refl w _⟩
  case round =>
    obtain ⟨j, ds, hj, rfl, rfl, hblk, hsz, hmk, hgr⟩ := hrel
    by_cases hlt : j < n
    · have hx0 : ∃ y, ds[j]? = some y := ⟨_, Array.getElem?_eq_getElem (by have := hsz.out; have := HS.out; omega)⟩
      obtain ⟨y0, hx0⟩ := hx0
      have hc0 := (hblk.cell j).trans hx0
      have hf0 := hblk.frozen j
      have HM : Hid (MKI (ds.setIfInBounds j (.int .i64 (k + j))) k (j + 1)) := MKI.step hmk.out (by have := hsz.out; have := HS.out; omega)
      have HZ : Hid ((ds.setIfInBounds j (.int .i64 (k + j))).size = cs.size) := by rw [Array.size_setIfInBounds]; exact hsz.out
      clear hx0 hmk hsz
      go_wp2
      go_roundw
      case rel => exact ⟨j + 1, _, by omega, by go_num, by congr 1; simp; omega, hblk.set_ _ _, HZ, HM, only_setI hgr _ _⟩
      case measure => simp [intOf]; omega
    · have hjn : j = n := by omega
      subst hjn
      go_wp2
      go_ret
      exact ⟨rfl, ds, hblk, hsz.out, hmk.out, hgr⟩

set_option maxHeartbeats 400000 in
theorem heldI_any (g n c : Nat) (t : TypeId) (cs : Array Value) (k : Int) (w : World) (hb : Blk w g t cs) (hm : MKI cs k n) (hn : n ≤ 16777216) (h0 : 0 ≤ k) (h1 : k ≤ 16777216) :
    Calls Try.prog 23 #[.slice (some ⟨g, 0, none⟩) n c, .int .i64 k] w fun e w' => e = .returned (.int .i64 (k + n)) ∧ w = w' := by
  have HM := Lib.hid hm; clear hm
  go_enter Try.func23, Try.ntmps23
  go_wp2
  go_loop [1, 5] (fun kk i => ∃ (j : Nat), j ≤ n ∧ i = .int .i64 j ∧ kk = .int .i64 (k + j)) (fun _ i => n - (intOf i).toNat)
  case atStart => exact ⟨0, Nat.zero_le _, rfl, by simp⟩
  case round =>
    obtain ⟨j, hj, rfl, rfl⟩ := hrel
    by_cases hlt : j < n
    · have hc0 := (hb.cell j).trans (HM.out j hlt)
      have hne : ∀ i : Int, (i != i) = false := fun i => by simp
      go_wp2
      go_round
      case rel => exact ⟨j + 1, by omega, by go_num, by congr 1; simp; omega⟩
      case measure => simp [intOf]; omega
    · have hjn : j = n := by omega
      subst hjn
      go_wp2
      go_ret
      exact ⟨rfl, rfl⟩

theorem markI_nil (A : Option Addr) (c : Nat) (k : Int) (w : World) :
    Calls Try.prog 22 #[.slice A 0 c, .int .i64 k] w fun e w' => e = .returned (.int .i64 k) ∧ w = w' := by
  go_enter Try.func22, Try.ntmps22
  go_wp2
  refine wp_loop_rounds 1 ?_
  rw [rounds_succ]
  go_wp2
  go_ret
  exact ⟨rfl, rfl⟩
theorem heldI_nil (A : Option Addr) (c : Nat) (k : Int) (w : World) :
    Calls Try.prog 23 #[.slice A 0 c, .int .i64 k] w fun e w' => e = .returned (.int .i64 k) ∧ w = w' := by
  go_enter Try.func23, Try.ntmps23
  go_wp2
  refine wp_loop_rounds 1 ?_
  rw [rounds_succ]
  go_wp2
  go_ret
  exact ⟨rfl, rfl⟩

/-- Whatever row of the call's own it is: the marks are laid, and found again as long as the row is as it was. -/
def MI (w : World) (t base : Nat) (A : Option Addr) (n : Nat) (k : Int) : Prop := n = 0 ∨ ∃ g cur, A = some ⟨g, 0, none⟩ ∧ base ≤ g ∧ Blk w g t cur ∧ MKI cur k n
theorem MI.on {w w' : World} {t base n : Nat} {A : Option Addr} {k : Int} (h : MI w t base A n k) (hb : Below w.heap.size w w') : MI w' t base A n k := by
  rcases h with h | ⟨g, cur, rfl, hg, hk, hp⟩
  · exact .inl h
  · exact .inr ⟨g, cur, rfl, hg, hk.on hb, hp⟩
theorem markI_own (A : Option Addr) (c t base : Nat) (xs : List Int) (k : Int) (w : World) (h : OI w t base A xs) (hn : xs.length ≤ 16777216) (h0 : 0 ≤ k) (h1 : k ≤ 16777216) :
    Calls Try.prog 22 #[.slice A xs.length c, .int .i64 k] w fun e w' =>
      e = .returned (.int .i64 (k + xs.length)) ∧ MI w' t base A xs.length k ∧ Below base w w' := by
  rcases h with ⟨rfl, rfl⟩ | ⟨g, cur, rfl, hg, hb, hp⟩
  · refine (markI_nil none c k w).mono ?_
    rintro e w' ⟨rfl, rfl⟩
    exact ⟨by simp, .inl rfl, Below.refl _ _⟩
  · refine (markI_any g xs.length c t cur k w hb hp.1 hn h0 h1).mono ?_
    rintro e w' ⟨rfl, ds, hd, _, hm, hgr⟩
    refine ⟨rfl, .inr ⟨g, ds, rfl, hg, hd, hm⟩, hgr.os, hgr.tape, hgr.output, hgr.size, fun i hi => hgr.block i (by have := hb.lt; omega) (by simp; omega)⟩
theorem heldI_own (A : Option Addr) (c t base n : Nat) (k : Int) (w : World) (h : MI w t base A n k) (hn : n ≤ 16777216) (h0 : 0 ≤ k) (h1 : k ≤ 16777216) :
    Calls Try.prog 23 #[.slice A n c, .int .i64 k] w fun e w' => e = .returned (.int .i64 (k + n)) ∧ w = w' := by
  rcases h with rfl | ⟨g, cur, rfl, _, hb, hm⟩
  · refine (heldI_nil A c k w).mono ?_
    rintro e w' ⟨rfl, rfl⟩
    exact ⟨by simp, rfl⟩
  · exact heldI_any g n c t cur k w hb hm hn h0 h1
end Go.Proofs.Ytfdfjmibjnmhpaa.V
