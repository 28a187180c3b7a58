/-
  RepOk of the model and of the program answer alike: contracts. Rows of numbers: how they read, comparison, marks. A row of numbers of the call's own beside marks; marks of a tally. Who a state has heard of a view, of the model and of the program: contracts. Lists of bytes in memory, and what eqByteS, markByteS, heldByteS and toByteS do: contracts. No statement is proved here.
-/
import Derived.Test.YtfdfjmibjnmhpaaK09
import Derived.Test.YtfdfjmibjnmhpaaK10
import Derived.Test.YtfdfjmibjnmhpaaK03
import Derived.Test.YtfdfjmibjnmhpaaK07
import Derived.Test.YtfdfjmibjnmhpaaK06
import Derived.Deep.AppendLies
import Derived.OwnWalk
set_option linter.unusedVariables false
set_option maxRecDepth 100000
namespace Go.Proofs.Ytfdfjmibjnmhpaa.V
open Go.RowKit Go.Proofs.Ytfdfjmibjnmhpaa.B

theorem done_no0 {x : Int} (h : decide (0 ≤ x) = false) : doneQ x = false := by
  unfold doneQ valOkB; simp at h ⊢; omega
theorem done_no60 {x : Int} (h : decide (x ≤ 60) = false) : doneQ x = false := by
  unfold doneQ valOkB; simp at h ⊢; omega
theorem done_yes {x : Int} (h : decide (0 ≤ x) = true) (h2 : decide (x ≤ 60) = true) : doneQ x = true := by
  unfold doneQ valOkB; simp at h h2 ⊢; omega
theorem specRepOk_is (z : Bool) (q : Rq) (hz : repQ q.dat = z) (w : World) (hr : RdQ w w.heap.size q) (hf : FewQ q) :
    Calls Try.prog 36 #[q.agg] w fun e w' => e = .returned (.bool z) ∧ Below w.heap.size w w' := by
  have hz' : ((sizeB q.n && (decide (0 ≤ q.id) && (decide (q.id < q.n) && (valOkB q.own && (viewOkB q.view && (decide (1 ≤ q.left) && decide (q.left ≤ 3 + q.view))))))) && (votesOkB q.voted (q.view + 1) && (doneQ q.dn && (lockOkB q.lv q.lx (q.view + 1) && (talsQ q.dat && heardB q.n (hl q.hs)))))) = z := hz
  clear hz
  rcases hs_ : sizeB q.n with _ | _
  · obtain rfl : z = false := by rw [← hz']; simp [hs_]
    exact specRepOk_f0 q w hr hf hs_
  rcases h1 : decide (0 ≤ q.id) with _ | _
  · obtain rfl : z = false := by rw [← hz']; simp [h1]
    exact specRepOk_f1 q w hr hf hs_ h1
  rcases h2 : decide (q.id < q.n) with _ | _
  · obtain rfl : z = false := by rw [← hz']; simp [h2]
    exact specRepOk_f2 q w hr hf hs_ h1 h2
  rcases h3 : valOkB q.own with _ | _
  · obtain rfl : z = false := by rw [← hz']; simp [h3]
    exact specRepOk_f3 q w hr hf hs_ h1 h2 h3
  rcases h4 : viewOkB q.view with _ | _
  · obtain rfl : z = false := by rw [← hz']; simp [h4]
    exact specRepOk_f4 q w hr hf hs_ h1 h2 h3 h4
  rcases h5 : decide (1 ≤ q.left) with _ | _
  · obtain rfl : z = false := by rw [← hz']; simp [h5]
    exact specRepOk_f5 q w hr hf hs_ h1 h2 h3 h4 h5
  rcases h6 : decide (q.left ≤ 3 + q.view) with _ | _
  · obtain rfl : z = false := by rw [← hz']; simp [h6]
    exact specRepOk_f6 q w hr hf hs_ h1 h2 h3 h4 h5 h6
  rcases h7 : votesOkB q.voted (q.view + 1) with _ | _
  · obtain rfl : z = false := by rw [← hz']; simp [h7]
    exact specRepOk_f7 q w hr hf hs_ h1 h2 h3 h4 h5 h6 h7
  rcases h8 : decide (0 ≤ q.dn) with _ | _
  · obtain rfl : z = false := by rw [← hz']; simp [done_no0 h8]
    exact specRepOk_f8 q w hr hf hs_ h1 h2 h3 h4 h5 h6 h7 h8
  rcases h9 : decide (q.dn ≤ 60) with _ | _
  · obtain rfl : z = false := by rw [← hz']; simp [done_no60 h9]
    exact specRepOk_f9 q w hr hf hs_ h1 h2 h3 h4 h5 h6 h7 h8 h9
  exact specRepOk_rest z q w hr hf hs_ h1 h2 h3 h4 h5 h6 h7 h8 h9 (by rw [← hz']; rw [hs_, h1, h2, h3, h4, h5, h6, h7, done_yes h8 h9]; rfl)

theorem implRepOk_is (z : Bool) (q : Rq) (hz : repQ q.dat = z) (w : World) (hr : RdQ w w.heap.size q) (hf : FewQ q) :
    Calls Try.prog 42 #[q.agg] w fun e w' => e = .returned (.bool z) ∧ Below w.heap.size w w' := by
  have hz' : ((sizeB q.n && (decide (0 ≤ q.id) && (decide (q.id < q.n) && (valOkB q.own && (viewOkB q.view && (decide (1 ≤ q.left) && decide (q.left ≤ 3 + q.view))))))) && (votesOkB q.voted (q.view + 1) && (doneQ q.dn && (lockOkB q.lv q.lx (q.view + 1) && (talsQ q.dat && heardB q.n (hl q.hs)))))) = z := hz
  clear hz
  rcases hs_ : sizeB q.n with _ | _
  · obtain rfl : z = false := by rw [← hz']; simp [hs_]
    exact implRepOk_f0 q w hr hf hs_
  rcases h1 : decide (0 ≤ q.id) with _ | _
  · obtain rfl : z = false := by rw [← hz']; simp [h1]
    exact implRepOk_f1 q w hr hf hs_ h1
  rcases h2 : decide (q.id < q.n) with _ | _
  · obtain rfl : z = false := by rw [← hz']; simp [h2]
    exact implRepOk_f2 q w hr hf hs_ h1 h2
  rcases h3 : valOkB q.own with _ | _
  · obtain rfl : z = false := by rw [← hz']; simp [h3]
    exact implRepOk_f3 q w hr hf hs_ h1 h2 h3
  rcases h4 : viewOkB q.view with _ | _
  · obtain rfl : z = false := by rw [← hz']; simp [h4]
    exact implRepOk_f4 q w hr hf hs_ h1 h2 h3 h4
  rcases h5 : decide (1 ≤ q.left) with _ | _
  · obtain rfl : z = false := by rw [← hz']; simp [h5]
    exact implRepOk_f5 q w hr hf hs_ h1 h2 h3 h4 h5
  rcases h6 : decide (q.left ≤ 3 + q.view) with _ | _
  · obtain rfl : z = false := by rw [← hz']; simp [h6]
    exact implRepOk_f6 q w hr hf hs_ h1 h2 h3 h4 h5 h6
  rcases h7 : votesOkB q.voted (q.view + 1) with _ | _
  · obtain rfl : z = false := by rw [← hz']; simp [h7]
    exact implRepOk_f7 q w hr hf hs_ h1 h2 h3 h4 h5 h6 h7
  rcases h8 : lockOkB q.lv q.lx (q.view + 1) with _ | _
  · obtain rfl : z = false := by rw [← hz']; simp [h8]
    exact implRepOk_f8 q w hr hf hs_ h1 h2 h3 h4 h5 h6 h7 h8
  exact implRepOk_rest z q w hr hf hs_ h1 h2 h3 h4 h5 h6 h7 h8 (by rw [← hz']; rw [hs_, h1, h2, h3, h4, h5, h6, h7, h8]; simp)

end Go.Proofs.Ytfdfjmibjnmhpaa.V

namespace Go.Proofs.Ytfdfjmibjnmhpaa.B
open Go.RowKit

/-- A slice value at address A reads, below block Bd, as the bytes xs. -/
def RdI (w : World) (Bd : Nat) (A : Option Addr) (xs : List Int) : Prop :=
  0 < xs.length → ∃ b off, A = some ⟨b, off, none⟩ ∧ b < Bd ∧ ∀ i, i < xs.length → w.cell? ⟨b, off + i, none⟩ = some (.int .i64 (xs.getD i 0))
section
variable {w w' : World} {Bd Bd' : Nat} {A : Option Addr} {xs : List Int}
theorem RdI.keep (h : RdI w Bd A xs) (hk : ∀ b o, b < Bd → w'.cell? ⟨b, o, none⟩ = w.cell? ⟨b, o, none⟩) : RdI w' Bd A xs := fun hn => by
  obtain ⟨b, off, e, hb, hc⟩ := h hn
  exact ⟨b, off, e, hb, fun i hi => (hk _ _ hb).trans (hc i hi)⟩
theorem RdI.more (h : RdI w Bd A xs) (hB : Bd ≤ Bd') : RdI w Bd' A xs := fun hn => by
  obtain ⟨b, off, e, hb, hc⟩ := h hn
  exact ⟨b, off, e, by omega, hc⟩
theorem RdI.below (h : RdI w Bd A xs) (hb : Below Bd w w') : RdI w' Bd A xs := h.keep fun _ _ hp => hb.cell hp
theorem RdI.alloc (h : RdI w Bd A xs) (hB : Bd ≤ w.heap.size) (o : Obj) : RdI (w.alloc o) Bd A xs := h.keep fun b o' hp => World.cell?_alloc_lt w o ⟨b, o', none⟩ (by simpa using (show b < w.heap.size by omega))
theorem RdI.on (h : RdI w w.heap.size A xs) (hb : Below w.heap.size w w') : RdI w' w'.heap.size A xs := (h.below hb).more hb.size
theorem RdI.up (h : RdI w w.heap.size A xs) (O : Obj) : RdI (w.alloc O) (w.alloc O).heap.size A xs := (h.alloc (Nat.le_refl _) O).more (by simp)
theorem RdI.nil_ : RdI w Bd A [] := fun h => absurd h (by simp)
theorem RdI.at_ (h : RdI w Bd A xs) {k : Nat} (hk : k < xs.length) : ∃ b off, A = some ⟨b, off, none⟩ ∧ b < Bd ∧ w.cell? ⟨b, off + k, none⟩ = some (.int .i64 (xs.getD k 0)) := by
  obtain ⟨b, off, rfl, hb, hc⟩ := h (by omega)
  exact ⟨b, off, rfl, hb, hc k hk⟩
end

/-- The first k bytes of xs stand in the cells cs. -/
def PI (cs : Array Value) (xs : List Int) (k : Nat) : Prop := xs.length ≤ cs.size ∧ ∀ i, i < k → cs[i]? = some (.int .i64 (xs.getD i 0))
theorem PI.zero {cs : Array Value} {xs : List Int} (h : xs.length ≤ cs.size) : PI cs xs 0 := ⟨h, fun i hi => absurd hi (by omega)⟩
theorem PI.step {cs : Array Value} {xs : List Int} {k : Nat} (h : PI cs xs k) (hk : k < xs.length) : PI (cs.setIfInBounds k (.int .i64 (xs.getD k 0))) xs (k + 1) := by
  refine ⟨by simpa using h.1, fun i hi => ?_⟩
  have hs := h.1
  by_cases e : i = k
  · subst e
    rw [Array.getElem?_setIfInBounds_self_of_lt (by omega)]
  · rw [Array.getElem?_setIfInBounds_ne (by omega)]
    exact h.2 i (by omega)
theorem PI.rd {w : World} {g t Bd : Nat} {cs : Array Value} {xs : List Int} (h : PI cs xs xs.length) (hb : Blk w g t cs) (hg : g < Bd) : RdI w Bd (some ⟨g, 0, none⟩) xs :=
  fun _ => ⟨g, 0, rfl, hg, fun i hi => by rw [Nat.zero_add, hb.cell]; exact h.2 i hi⟩

/-- A slice of bytes of the call's own: nil, or a row of its own whose first cells are xs. -/
def OI (w : World) (t base : Nat) (A : Option Addr) (xs : List Int) : Prop := (A = none ∧ xs = []) ∨ ∃ g cur, A = some ⟨g, 0, none⟩ ∧ base ≤ g ∧ Blk w g t cur ∧ PI cur xs xs.length
theorem OI.nil_ {w : World} {t base : Nat} : OI w t base none [] := .inl ⟨rfl, rfl⟩
theorem OI.of_own {w : World} {base t n c : Nat} {A : Option Addr} {xs : List Int} (h : w.ownsRow base t 1 (.slice A n c) n (xs.map (Value.int .i64))) : n = xs.length ∧ OI w t base A xs := by
  obtain ⟨hl, h⟩ := h
  have hn : n = xs.length := by simpa using hl.symm
  refine ⟨hn, ?_⟩
  rcases h with ⟨h1, h2⟩ | ⟨g, cap, cur, h1, h2, h3, h4, h5, h6, h7⟩
  · injection h1 with h1
    exact .inl ⟨h1, List.eq_nil_of_length_eq_zero (by omega)⟩
  · injection h1 with h1
    refine .inr ⟨g, cur, h1, h2, h3, by omega, fun i hi => ?_⟩
    have hi' : i < n := by omega
    have : (cur.toList.take (n * 1))[i]? = some (.int .i64 (xs.getD i 0)) := by
      rw [h7]
      simp [List.getD, List.getElem?_eq_getElem hi]
    rw [List.getElem?_take_of_lt (by omega)] at this
    simpa using this
theorem OI.rd {w : World} {t base : Nat} {A : Option Addr} {xs : List Int} (h : OI w t base A xs) : RdI w w.heap.size A xs := by
  rcases h with ⟨rfl, rfl⟩ | ⟨g, cur, rfl, _, hb, hp⟩
  · exact RdI.nil_
  · exact hp.rd hb hb.lt
theorem OI.on {w w' : World} {t base : Nat} {A : Option Addr} {xs : List Int} (h : OI w t base A xs) (hb : Below w.heap.size w w') : OI w' t base A xs := by
  rcases h with ⟨rfl, rfl⟩ | ⟨g, cur, rfl, hg, hk, hp⟩
  · exact OI.nil_
  · exact .inr ⟨g, cur, rfl, hg, hk.on hb, hp⟩
end Go.Proofs.Ytfdfjmibjnmhpaa.B

namespace Go.Proofs.Ytfdfjmibjnmhpaa.V
open Go.RowKit Go.Proofs.Ytfdfjmibjnmhpaa.B

set_option maxHeartbeats 400000 in
theorem eqIntS_same (A C : Option Addr) (c d : Nat) (xs : List Int) (w : World) (hr : RdI w w.heap.size A xs) (hs : RdI w w.heap.size C xs) (hn : xs.length ≤ 16777216) :
    Calls Try.prog 21 #[.slice A xs.length c, .slice C xs.length d] w fun e w' => e = .returned (.bool true) ∧ Below w.heap.size w w' := by
  obtain ⟨n, hvn⟩ : ∃ n, xs.length = n := ⟨_, rfl⟩
  rw [hvn] at hn ⊢
  have HV := Lib.hid hvn; clear hvn
  go_enter Try.func21, Try.ntmps21
  go_wp2
  go_loopw [5] (fun i wr => ∃ (k : Nat), k ≤ n ∧ i = .int .i64 k ∧ Below w.heap.size w wr) (fun i _ => n - (intOf i).toNat)
  case atStart => exact ⟨0, Nat.zero_le _, rfl, Below.refl _ _⟩
  case round =>
    obtain ⟨k, hk, rfl, hbel⟩ := hrel
    by_cases hlt : k < n
    · obtain ⟨b, off, rfl, hb, hc0⟩ := (hr.below hbel).at_ (k := k) (by rw [HV.out]; omega)
      obtain ⟨b', off', rfl, hb', hc1⟩ := (hs.below hbel).at_ (k := k) (by rw [HV.out]; omega)
      clear hr hs
      generalize xs.getD k 0 = y at *
      have C0 := fun x : Lat wr => x.cell hc0
      have C1 := fun x : Lat wr => x.cell hc1
      have hne : (y != y) = false := by simp
      go_wp2
      refine wp_region_lat (by kernel_rfl) (by kernel_rfl) ?_
      repeat (go_big_quiet_step (fail))
      refine wpQuiet_nil ?_
      rintro _ ⟨⟨w3, hb3⟩, rfl⟩
      clear C0 C1
      go_wp2
      go_roundw
      case rel => exact ⟨k + 1, by omega, by go_num, hbel.trans (hb3.mono hbel.size)⟩
      case measure => simp [intOf]; omega
    · go_wp2
      go_ret
      exact ⟨rfl, hbel⟩

/-- The cells cs bear the marks k, k+1, .. as bytes in the n first places. -/
def MKI (cs : Array Value) (k : Int) (n : Nat) : Prop := ∀ i, i < n → cs[i]? = some (.int .i64 (k + i))

theorem MKI.step {cs : Array Value} {k : Int} {j : Nat} (h : MKI cs k j) (hs : j < cs.size) : MKI (cs.setIfInBounds j (.int .i64 (k + j))) k (j + 1) := by
  intro i hi
  by_cases e : i = j
  · subst e
    rw [Array.getElem?_setIfInBounds_self_of_lt hs]
  · rw [Array.getElem?_setIfInBounds_ne (by omega)]
    exact h i (by omega)
theorem only_setI {a w : World} {g : Nat} (h : a.grownBy w (some g)) (i : Nat) (u : Value) : a.grownBy (w.setCell ⟨g, i, none⟩ u) (some g) :=
  ⟨h.os, h.tape, h.output, by simpa [World.setCell] using h.size, fun j hj hne => (Below.heap_setCell w ⟨g, i, none⟩ u j (by
    rintro rfl
    exact hne rfl)).trans (h.block j hj hne)⟩

set_option maxHeartbeats 400000 in
theorem markI_any (g n c : Nat) (t : TypeId) (cs : Array Value) (k : Int) (w : World) (hb : Blk w g t cs) (hs : n ≤ cs.size) (hn : n ≤ 16777216) (h0 : 0 ≤ k) (h1 : k ≤ 16777216) :
    Calls Try.prog 22 #[.slice (some ⟨g, 0, none⟩) n c, .int .i64 k] w fun e w' =>
      e = .returned (.int .i64 (k + n)) ∧ ∃ cs', Blk w' g t cs' ∧ cs'.size = cs.size ∧ MKI cs' k n ∧ w.grownBy w' (some g) := by
  have HS := Lib.hid hs; clear hs
  go_enter Try.func22, Try.ntmps22
  go_wp2
  go_loopw [1, 5] (fun kk i wr => ∃ (j : Nat) (ds : Array Value), j ≤ n ∧ i = .int .i64 j ∧ kk = .int .i64 (k + j) ∧ Blk wr g t ds ∧ Hid (ds.size = cs.size) ∧ Hid (MKI ds k j) ∧ w.grownBy wr (some g)) (fun _ i _ => n - (intOf i).toNat)
  case atStart => exact ⟨0, cs, Nat.zero_le _, rfl, by simp, hb, rfl, fun i hi => absurd hi (by omega), World.grownBy.refl w _⟩
  case round =>
    obtain ⟨j, ds, hj, rfl, rfl, hblk, hsz, hmk, hgr⟩ := hrel
    by_cases hlt : j < n
    · have hx0 : ∃ y, ds[j]? = some y := ⟨_, Array.getElem?_eq_getElem (by have := hsz.out; have := HS.out; omega)⟩
      obtain ⟨y0, hx0⟩ := hx0
      have hc0 := (hblk.cell j).trans hx0
      have hf0 := hblk.frozen j
      have HM : Hid (MKI (ds.setIfInBounds j (.int .i64 (k + j))) k (j + 1)) := MKI.step hmk.out (by have := hsz.out; have := HS.out; omega)
      have HZ : Hid ((ds.setIfInBounds j (.int .i64 (k + j))).size = cs.size) := by rw [Array.size_setIfInBounds]; exact hsz.out
      clear hx0 hmk hsz
      go_wp2
      go_roundw
      case rel => exact ⟨j + 1, _, by omega, by go_num, by congr 1; simp; omega, hblk.set_ _ _, HZ, HM, only_setI hgr _ _⟩
      case measure => simp [intOf]; omega
    · have hjn : j = n := by omega
      subst hjn
      go_wp2
      go_ret
      exact ⟨rfl, ds, hblk, hsz.out, hmk.out, hgr⟩

set_option maxHeartbeats 400000 in
theorem heldI_any (g n c : Nat) (t : TypeId) (cs : Array Value) (k : Int) (w : World) (hb : Blk w g t cs) (hm : MKI cs k n) (hn : n ≤ 16777216) (h0 : 0 ≤ k) (h1 : k ≤ 16777216) :
    Calls Try.prog 23 #[.slice (some ⟨g, 0, none⟩) n c, .int .i64 k] w fun e w' => e = .returned (.int .i64 (k + n)) ∧ w = w' := by
  have HM := Lib.hid hm; clear hm
  go_enter Try.func23, Try.ntmps23
  go_wp2
  go_loop [1, 5] (fun kk i => ∃ (j : Nat), j ≤ n ∧ i = .int .i64 j ∧ kk = .int .i64 (k + j)) (fun _ i => n - (intOf i).toNat)
  case atStart => exact ⟨0, Nat.zero_le _, rfl, by simp⟩
  case round =>
    obtain ⟨j, hj, rfl, rfl⟩ := hrel
    by_cases hlt : j < n
    · have hc0 := (hb.cell j).trans (HM.out j hlt)
      have hne : ∀ i : Int, (i != i) = false := fun i => by simp
      go_wp2
      go_round
      case rel => exact ⟨j + 1, by omega, by go_num, by congr 1; simp; omega⟩
      case measure => simp [intOf]; omega
    · have hjn : j = n := by omega
      subst hjn
      go_wp2
      go_ret
      exact ⟨rfl, rfl⟩

theorem markI_nil (A : Option Addr) (c : Nat) (k : Int) (w : World) :
    Calls Try.prog 22 #[.slice A 0 c, .int .i64 k] w fun e w' => e = .returned (.int .i64 k) ∧ w = w' := by
  go_enter Try.func22, Try.ntmps22
  go_wp2
  refine wp_loop_rounds 1 ?_
  rw [rounds_succ]
  go_wp2
  go_ret
  exact ⟨rfl, rfl⟩
theorem heldI_nil (A : Option Addr) (c : Nat) (k : Int) (w : World) :
    Calls Try.prog 23 #[.slice A 0 c, .int .i64 k] w fun e w' => e = .returned (.int .i64 k) ∧ w = w' := by
  go_enter Try.func23, Try.ntmps23
  go_wp2
  refine wp_loop_rounds 1 ?_
  rw [rounds_succ]
  go_wp2
  go_ret
  exact ⟨rfl, rfl⟩

/-- Whatever row of the call's own it is: the marks are laid, and found again as long as the row is as it was. -/
def MI (w : World) (t base : Nat) (A : Option Addr) (n : Nat) (k : Int) : Prop := n = 0 ∨ ∃ g cur, A = some ⟨g, 0, none⟩ ∧ base ≤ g ∧ Blk w g t cur ∧ MKI cur k n
theorem MI.on {w w' : World} {t base n : Nat} {A : Option Addr} {k : Int} (h : MI w t base A n k) (hb : Below w.heap.size w w') : MI w' t base A n k := by
  rcases h with h | ⟨g, cur, rfl, hg, hk, hp⟩
  · exact .inl h
  · exact .inr ⟨g, cur, rfl, hg, hk.on hb, hp⟩
theorem markI_own (A : Option Addr) (c t base : Nat) (xs : List Int) (k : Int) (w : World) (h : OI w t base A xs) (hn : xs.length ≤ 16777216) (h0 : 0 ≤ k) (h1 : k ≤ 16777216) :
    Calls Try.prog 22 #[.slice A xs.length c, .int .i64 k] w fun e w' =>
      e = .returned (.int .i64 (k + xs.length)) ∧ MI w' t base A xs.length k ∧ Below base w w' := by
  rcases h with ⟨rfl, rfl⟩ | ⟨g, cur, rfl, hg, hb, hp⟩
  · refine (markI_nil none c k w).mono ?_
    rintro e w' ⟨rfl, rfl⟩
    exact ⟨by simp, .inl rfl, Below.refl _ _⟩
  · refine (markI_any g xs.length c t cur k w hb hp.1 hn h0 h1).mono ?_
    rintro e w' ⟨rfl, ds, hd, _, hm, hgr⟩
    refine ⟨rfl, .inr ⟨g, ds, rfl, hg, hd, hm⟩, hgr.os, hgr.tape, hgr.output, hgr.size, fun i hi => hgr.block i (by have := hb.lt; omega) (by simp; omega)⟩
theorem heldI_own (A : Option Addr) (c t base n : Nat) (k : Int) (w : World) (h : MI w t base A n k) (hn : n ≤ 16777216) (h0 : 0 ≤ k) (h1 : k ≤ 16777216) :
    Calls Try.prog 23 #[.slice A n c, .int .i64 k] w fun e w' => e = .returned (.int .i64 (k + n)) ∧ w = w' := by
  rcases h with rfl | ⟨g, cur, rfl, _, hb, hm⟩
  · refine (heldI_nil A c k w).mono ?_
    rintro e w' ⟨rfl, rfl⟩
    exact ⟨by simp, rfl⟩
  · exact heldI_any g n c t cur k w hb hm hn h0 h1
end Go.Proofs.Ytfdfjmibjnmhpaa.V

namespace Go.Proofs.Ytfdfjmibjnmhpaa.B
open Go.RowKit
theorem OI.up {w : World} {t base : Nat} {A : Option Addr} {xs : List Int} (h : OI w t base A xs) (O : Obj) : OI (w.alloc O) t base A xs := h.on ((Below.refl _ _).alloc (Nat.le_refl _) O)
theorem OI.lt {w : World} {t base : Nat} {A : Option Addr} {xs : List Int} (h : OI w t base A xs) : ∀ g, A = some ⟨g, 0, none⟩ → g < w.heap.size := by
  intro g' e
  rcases h with ⟨rfl, rfl⟩ | ⟨g, cur, rfl, _, hk, _⟩
  · cases e
  · injection e with e
    injection e with e
    subst e
    exact hk.lt
theorem OI.ge {w : World} {t base : Nat} {A : Option Addr} {xs : List Int} (h : OI w t base A xs) : ∀ g, A = some ⟨g, 0, none⟩ → base ≤ g := by
  intro g' e
  rcases h with ⟨rfl, rfl⟩ | ⟨g, cur, rfl, hg, _, _⟩
  · cases e
  · injection e with e
    injection e with e
    subst e
    exact hg
theorem OI.keep {w w' : World} {t base : Nat} {A : Option Addr} {xs : List Int} {row : Option Nat} (h : OI w t base A xs) (hgr : w.grownBy w' row) (hne : ∀ g', A = some ⟨g', 0, none⟩ → row ≠ some g') : OI w' t base A xs := by
  rcases h with ⟨rfl, rfl⟩ | ⟨g', cur, rfl, hb, hk, hp⟩
  · exact OI.nil_
  · exact .inr ⟨g', cur, rfl, hb, (hgr.block g' hk.lt (fun e => hne g' rfl e.symm)).trans hk, hp⟩
theorem OI.low {w w' : World} {t base Bd : Nat} {A : Option Addr} {xs : List Int} (h : OI w t base A xs) (hb : Below Bd w w') (hl : ∀ g', A = some ⟨g', 0, none⟩ → g' < Bd) : OI w' t base A xs := by
  rcases h with ⟨rfl, rfl⟩ | ⟨g, cur, rfl, hg, hk, hp⟩
  · exact OI.nil_
  · exact .inr ⟨g, cur, rfl, hg, hk.below hb (hl g rfl), hp⟩
theorem keepK {w w' : World} {g : Nat} {t : TypeId} {cs : Array Value} {row : Option Nat} (h : Blk w g t cs) (hgr : w.grownBy w' row) (hne : row ≠ some g) : Blk w' g t cs := (hgr.block g h.lt (fun e => hne e.symm)).trans h
theorem keepL {w w' : World} {base : Nat} {row : Option Nat} (hgr : w.grownBy w' row) (hg : ∀ g, row = some g → base ≤ g) (hw : base ≤ w.heap.size) : Below base w w' :=
  ⟨hgr.os, hgr.tape, hgr.output, hgr.size, fun i hi => hgr.block i (by omega) (fun e => by have := hg i e.symm; omega)⟩
end Go.Proofs.Ytfdfjmibjnmhpaa.B
namespace Go.Proofs.Ytfdfjmibjnmhpaa.V
open Go.RowKit Go.Proofs.Ytfdfjmibjnmhpaa.B
/-- Numbers of the call's own, as the laws read them. -/
def NRes2 (xs : List Int) (w : World) (e : Ending) (w' : World) : Prop :=
  ∃ A d, e = .returned (.slice A xs.length d) ∧ OI w' 3 w.heap.size A xs ∧ Below w.heap.size w w'
theorem nres_of {xs : List Int} {w : World} {e : Ending} {w' : World} (h : NRes xs w e w') : NRes2 xs w e w' := by
  obtain ⟨v, rfl, ho, hb⟩ := h
  obtain ⟨A, c, rfl⟩ : ∃ A c, v = .slice A xs.length c := by
    obtain ⟨_, ⟨rfl, h0⟩ | ⟨g, cap, cur, rfl, _⟩⟩ := ho
    · exact ⟨none, 0, by rw [h0]⟩
    · exact ⟨_, _, rfl⟩
  exact ⟨A, c, rfl, (OI.of_own ho).2, hb⟩
theorem markTally_any (k : Int) (g n c : Nat) (t : TypeId) (cs : Array Value) (w : World) (hb : Blk w g t cs) (hs : n * 3 ≤ cs.size) (hn : n ≤ 1048576) (h0 : 0 ≤ k) (h1 : k ≤ 16777216) :
    Calls Try.prog 52 #[.agg #[.slice (some ⟨g, 0, none⟩) n c], .int .i64 k] w fun e w' =>
      e = .returned (.int .i64 (k + 3 * n)) ∧ ∃ cs', Blk w' g t cs' ∧ cs'.size = cs.size ∧ MK3 cs' k n ∧ w.grownBy w' (some g) := by
  have hm0 := fun O => markB3_any g n c t cs k (w.alloc O) (hb.alloc O) hs hn h0 h1
  have HM := Lib.hid hm0; clear hm0 hs
  go_enter Try.func52, Try.ntmps52
  go_wp2_with (go_at_call 93; refine (HM.out _).mono ?_; rintro e w1 ⟨rfl, ds, hd, hsz, hmk, hgr⟩; have HZ := Lib.hid hsz; clear hsz; have HK := Lib.hid hmk; clear hmk)
  go_ret
  exact ⟨rfl, ds, hd, HZ.out, HK.out, grown_alloc3 hgr⟩
end Go.Proofs.Ytfdfjmibjnmhpaa.V

namespace Go.Proofs.Ytfdfjmibjnmhpaa.V
open Go.RowKit Go.Proofs.Ytfdfjmibjnmhpaa.B
theorem litg (W : World) (u : Value) (g : Nat) (hg : W.heap.size = g) : Reads (W.alloc (.cells #[u] 3)) (g + 1) 1 (some ⟨g, 0, none⟩) 1 [u] := by subst hg; exact lit_int W u
def hFind (hs : List Hp) (v : Int) : Hp := (hs.find? fun h => decide (h.v = v)).getD zH
def hFrom (d : List (Int × List Rp)) (v : Int) : List Int := match d.find? (fun h => decide (h.1 = v)) with
  | some h => h.2.map Rp.f
  | none => []
def hfrC (d : Rd4) (v : Int) : List Int := if repQ d then hFrom d.hs v else []
theorem hFind_at : ∀ {hs : List Hp} {v : Int} {k : Nat}, k < hs.length → (∀ j, j < k → (hs.getD j zH).v ≠ v) → (hs.getD k zH).v = v → hFind hs v = hs.getD k zH
  | [], _, k, hk, _, _ => absurd hk (by simp)
  | h :: hs, v, 0, _, _, e => by
    simp only [List.getD_cons_zero] at e ⊢
    unfold hFind
    rw [List.find?_cons_of_pos (p := fun (h : Hp) => decide (h.v = v)) (decide_eq_true e)]
    rfl
  | h :: hs, v, k + 1, hk, ha, e => by
    have h0 := ha 0 (by omega)
    simp only [List.getD_cons_zero] at h0
    simp only [List.getD_cons_succ] at e ⊢
    have := hFind_at (hs := hs) (v := v) (k := k) (by simpa using hk) (fun j hj => by have := ha (j + 1) (by omega); simpa only [List.getD_cons_succ] using this) e
    unfold hFind at this ⊢
    rw [List.find?_cons_of_neg (by simp [h0]), this]
theorem hFind_no : ∀ {hs : List Hp} {v : Int}, (∀ j, j < hs.length → (hs.getD j zH).v ≠ v) → hFind hs v = zH
  | [], _, _ => rfl
  | h :: hs, v, ha => by
    have h0 := ha 0 (by simp)
    simp only [List.getD_cons_zero] at h0
    have := hFind_no (hs := hs) (v := v) (fun j hj => by have := ha (j + 1) (by simp; omega); simpa only [List.getD_cons_succ] using this)
    unfold hFind at this ⊢
    rw [List.find?_cons_of_neg (by simp [h0]), this]
theorem hFind_from : ∀ (hs : List Hp) (v : Int), (hFind hs v).ps.map (fun p => p.r.f) = hFrom (hl hs) v
  | [], _ => rfl
  | h :: hs, v => by
    have ih := hFind_from hs v
    unfold hFind hFrom at ih ⊢
    by_cases e : h.v = v
    · rw [List.find?_cons_of_pos (p := fun (h : Hp) => decide (h.v = v)) (decide_eq_true e)]
      simp only [hl, List.map_cons]
      rw [List.find?_cons_of_pos (p := fun (h : Int × List Rp) => decide (h.1 = v)) (decide_eq_true (show (hd1 h).1 = v from e))]
      simp [hd1, rl]
    · rw [List.find?_cons_of_neg (by simp [e])]
      simp only [hl, List.map_cons] at ih ⊢
      rw [List.find?_cons_of_neg (by simp [hd1, e])]
      exact ih
theorem hFind_mem (hs : List Hp) (v : Int) : (∃ k, k < hs.length ∧ hFind hs v = hs.getD k zH) ∨ hFind hs v = zH := by
  by_cases h : ∃ k, k < hs.length ∧ (hs.getD k zH).v = v
  · obtain ⟨k, hk, e⟩ := h
    have hall : ∀ k, k < hs.length → (hs.getD k zH).v = v → ∃ m, m < hs.length ∧ (hs.getD m zH).v = v ∧ ∀ j, j < m → (hs.getD j zH).v ≠ v := fun k => by
      induction k using Nat.strongRecOn with
      | ind k ih =>
        intro hk e
        by_cases hj : ∃ j, j < k ∧ (hs.getD j zH).v = v
        · obtain ⟨j, h1, h2⟩ := hj
          exact ih j h1 (by omega) h2
        · exact ⟨k, hk, e, fun j h1 h2 => hj ⟨j, h1, h2⟩⟩
    obtain ⟨m, h1, h2, h3⟩ := hall k hk e
    exact .inl ⟨m, h1, hFind_at h1 h3 h2⟩
  · exact .inr (hFind_no fun j hj e => h ⟨j, hj, e⟩)
theorem hFind_rd {w : World} {Bd : Nat} {A : Option Addr} {hs : List Hp} (h : RdH w Bd A hs) (v : Int) : RdR w Bd (hFind hs v).A (hFind hs v).ps := by
  rcases hFind_mem hs v with ⟨k, hk, e⟩ | e
  · rw [e]
    obtain ⟨_, _, _, _, _, _, hr⟩ := RdH.at_ h hk
    exact hr
  · rw [e]; exact RdR.nil_
theorem hFind_few {hs : List Hp} (h : FewH hs) (v : Int) : Few (hFind hs v).ps := by
  rcases hFind_mem hs v with ⟨k, hk, e⟩ | e
  · rw [e]; exact h.2 k hk
  · rw [e]; exact ⟨by simp [zH], fun i hi => absurd hi (by simp [zH])⟩
set_option maxHeartbeats 1600000 in
theorem l4heard_is (q : Rq) (v : Int) (w : World) (hr : RdQ w w.heap.size q) (hf : FewQ q) :
    Calls Try.prog 55 #[q.agg, .int .i64 v] w fun e w' => e = .returned (.slice (hFind q.hs v).A (hFind q.hs v).ps.length (hFind q.hs v).c) ∧ Below w.heap.size w w' := by
  obtain ⟨n, id, own, view, left, voted, lv, lx, dn, pr, vo, re, ds, hs, Av, Ap, Ao, Ar, Ad, Ah, cv, cp, co, cr, cd, ch⟩ := q
  obtain ⟨rv, rp, ro, rr, rd, rh⟩ := hr
  obtain ⟨fv, fp, fo, fr, fd, fh⟩ := hf
  simp only [Rq.agg, Rq.cells] at *
  obtain ⟨lv0, elv0⟩ : ∃ m, voted.length = m := ⟨_, rfl⟩
  obtain ⟨lp0, elp0⟩ : ∃ m, pr.length = m := ⟨_, rfl⟩
  obtain ⟨lo0, elo0⟩ : ∃ m, vo.length = m := ⟨_, rfl⟩
  obtain ⟨lr0, elr0⟩ : ∃ m, re.length = m := ⟨_, rfl⟩
  obtain ⟨ld0, eld0⟩ : ∃ m, ds.length = m := ⟨_, rfl⟩
  obtain ⟨lh0, elh0⟩ : ∃ m, hs.length = m := ⟨_, rfl⟩
  simp only [elv0, elp0, elo0, elr0, eld0, elh0] at ⊢
  have RH := Lib.hid rh; have ELH := Lib.hid elh0
  have blh : lh0 ≤ 1048576 := by rw [← elh0]; exact fh.1
  clear elv0 elp0 elo0 elr0 eld0 elh0 rv rp ro rr rd rh fv fp fo fr fd fh
  obtain ⟨RA, hRA⟩ : ∃ x, (hFind hs v).A = x := ⟨_, rfl⟩
  obtain ⟨RN, hRN⟩ : ∃ x, (hFind hs v).ps.length = x := ⟨_, rfl⟩
  obtain ⟨RC, hRC⟩ : ∃ x, (hFind hs v).c = x := ⟨_, rfl⟩
  rw [hRA, hRN, hRC]
  have HF := Lib.hid (show ∀ h : Hp, hFind hs v = h → RA = h.A ∧ RN = h.ps.length ∧ RC = h.c from fun h e => by rw [← hRA, ← hRN, ← hRC, e]; exact ⟨rfl, rfl, rfl⟩)
  clear hRA hRN hRC
  have ka := Blk.new w 40 #[.int .i64 n, .int .i64 id, .int .i64 own, .int .i64 view, .int .i64 left, .slice Av lv0 cv, .int .i64 lv, .int .i64 lx, .int .i64 dn, .slice Ap lp0 cp, .slice Ao lo0 co, .slice Ar lr0 cr, .slice Ad ld0 cd, .slice Ah lh0 ch]
  have hB := up_ (Below.refl w.heap.size w) (.cells #[.int .i64 n, .int .i64 id, .int .i64 own, .int .i64 view, .int .i64 left, .slice Av lv0 cv, .int .i64 lv, .int .i64 lx, .int .i64 dn, .slice Ap lp0 cp, .slice Ao lo0 co, .slice Ar lr0 cr, .slice Ad ld0 cd, .slice Ah lh0 ch] 40)
  have HKA := Lib.hid ka; have HB1 := Lib.hid hB
  have ra := ka.rule
  go_enter Try.func55, Try.ntmps55
  clear ka hB
  go_wp2
  go_loopw [5] (fun i wr => ∃ (k : Nat), k ≤ lh0 ∧ i = .int .i64 k ∧ Hid (∀ j, j < k → (hs.getD j zH).v ≠ v) ∧ Blk wr w.heap.size 40 #[.int .i64 n, .int .i64 id, .int .i64 own, .int .i64 view, .int .i64 left, .slice Av lv0 cv, .int .i64 lv, .int .i64 lx, .int .i64 dn, .slice Ap lp0 cp, .slice Ao lo0 co, .slice Ar lr0 cr, .slice Ad ld0 cd, .slice Ah lh0 ch] ∧ Below w.heap.size w wr) (fun i _ => lh0 - (intOf i).toNat)
  case atStart => exact ⟨0, Nat.zero_le _, rfl, fun j hj => absurd hj (by omega), HKA.out, HB1.out⟩
  case round =>
    obtain ⟨k, hk, rfl, hall, ka, hB⟩ := hrel
    clear ra HKA HB1
    have ra := ka.rule
    by_cases hlt : k < lh0
    · obtain ⟨b, off, rfl, hb, hc0, hc1, hrr⟩ := RdH.at_ (RH.out.below hB) (k := k) (by rw [ELH.out]; omega)
      clear hrr
      obtain ⟨⟨hv, hps, hA, hc⟩, hu⟩ : ∃ u, hs.getD k zH = u := ⟨_, rfl⟩
      rw [hu] at hc0 hc1
      simp only at hc0 hc1
      have HU := Lib.hid hu; clear hu
      have hup : Below w.heap.size w (wr) := hB
      have kup := ka
      by_cases hx : hv = v
      · subst hx
        obtain ⟨e1, e2, e3⟩ := HF.out _ (hFind_at (k := k) (by rw [ELH.out]; omega) hall.out (by rw [HU.out]))
        rw [HU.out] at e1 e2 e3
        simp only at e1 e2 e3
        clear HF
        subst e1
        subst e2
        subst e3
        go_wp2
        go_ret
        exact ⟨rfl, hup⟩
      · have hx' : (hv == v) = false := by simpa using hx
        have HX := Lib.hid hx; clear hx
        go_wp2
        go_roundw
        case rel =>
          refine ⟨k + 1, by omega, by go_num, fun j hj => ?_, kup, hup⟩
          by_cases e : j = k
          · rw [e, HU.out]; exact HX.out
          · exact hall.out j (by omega)
        case measure => simp [intOf]; omega
    · obtain ⟨e1, e2, e3⟩ := HF.out _ (hFind_no fun j hj => hall.out j (by rw [ELH.out] at hj; omega))
      simp only [zH] at e1 e2 e3
      subst e1 e2 e3
      go_wp2
      go_ret
      exact ⟨rfl, hB⟩
set_option maxHeartbeats 1600000 in
theorem reportsIn_is (q : Rq) (v : Int) (w : World) (hr : RdQ w w.heap.size q) (hf : FewQ q) :
    Calls Try.prog 56 #[q.agg, .int .i64 v] w fun e w' => e = .returned (.slice (hFind q.hs v).A (hFind q.hs v).ps.length (hFind q.hs v).c) ∧ Below w.heap.size w w' := by
  obtain ⟨n, id, own, view, left, voted, lv, lx, dn, pr, vo, re, ds, hs, Av, Ap, Ao, Ar, Ad, Ah, cv, cp, co, cr, cd, ch⟩ := q
  obtain ⟨rv, rp, ro, rr, rd, rh⟩ := hr
  obtain ⟨fv, fp, fo, fr, fd, fh⟩ := hf
  simp only [Rq.agg, Rq.cells] at *
  obtain ⟨lv0, elv0⟩ : ∃ m, voted.length = m := ⟨_, rfl⟩
  obtain ⟨lp0, elp0⟩ : ∃ m, pr.length = m := ⟨_, rfl⟩
  obtain ⟨lo0, elo0⟩ : ∃ m, vo.length = m := ⟨_, rfl⟩
  obtain ⟨lr0, elr0⟩ : ∃ m, re.length = m := ⟨_, rfl⟩
  obtain ⟨ld0, eld0⟩ : ∃ m, ds.length = m := ⟨_, rfl⟩
  obtain ⟨lh0, elh0⟩ : ∃ m, hs.length = m := ⟨_, rfl⟩
  simp only [elv0, elp0, elo0, elr0, eld0, elh0] at ⊢
  have RH := Lib.hid rh; have ELH := Lib.hid elh0
  have blh : lh0 ≤ 1048576 := by rw [← elh0]; exact fh.1
  clear elv0 elp0 elo0 elr0 eld0 elh0 rv rp ro rr rd rh fv fp fo fr fd fh
  obtain ⟨RA, hRA⟩ : ∃ x, (hFind hs v).A = x := ⟨_, rfl⟩
  obtain ⟨RN, hRN⟩ : ∃ x, (hFind hs v).ps.length = x := ⟨_, rfl⟩
  obtain ⟨RC, hRC⟩ : ∃ x, (hFind hs v).c = x := ⟨_, rfl⟩
  rw [hRA, hRN, hRC]
  have HF := Lib.hid (show ∀ h : Hp, hFind hs v = h → RA = h.A ∧ RN = h.ps.length ∧ RC = h.c from fun h e => by rw [← hRA, ← hRN, ← hRC, e]; exact ⟨rfl, rfl, rfl⟩)
  clear hRA hRN hRC
  have ka := Blk.new w 40 #[.int .i64 n, .int .i64 id, .int .i64 own, .int .i64 view, .int .i64 left, .slice Av lv0 cv, .int .i64 lv, .int .i64 lx, .int .i64 dn, .slice Ap lp0 cp, .slice Ao lo0 co, .slice Ar lr0 cr, .slice Ad ld0 cd, .slice Ah lh0 ch]
  have hB := up_ (Below.refl w.heap.size w) (.cells #[.int .i64 n, .int .i64 id, .int .i64 own, .int .i64 view, .int .i64 left, .slice Av lv0 cv, .int .i64 lv, .int .i64 lx, .int .i64 dn, .slice Ap lp0 cp, .slice Ao lo0 co, .slice Ar lr0 cr, .slice Ad ld0 cd, .slice Ah lh0 ch] 40)
  have HKA := Lib.hid ka; have HB1 := Lib.hid hB
  have ra := ka.rule
  go_enter Try.func56, Try.ntmps56
  clear ka hB
  go_wp2
  go_loopw [10] (fun i wr => ∃ (k : Nat), k ≤ lh0 ∧ i = .int .i64 k ∧ Hid (∀ j, j < k → (hs.getD j zH).v ≠ v) ∧ Blk wr w.heap.size 40 #[.int .i64 n, .int .i64 id, .int .i64 own, .int .i64 view, .int .i64 left, .slice Av lv0 cv, .int .i64 lv, .int .i64 lx, .int .i64 dn, .slice Ap lp0 cp, .slice Ao lo0 co, .slice Ar lr0 cr, .slice Ad ld0 cd, .slice Ah lh0 ch] ∧ Below w.heap.size w wr) (fun i _ => lh0 - (intOf i).toNat)
  case atStart => exact ⟨0, Nat.zero_le _, rfl, fun j hj => absurd hj (by omega), HKA.out, HB1.out⟩
  case round =>
    obtain ⟨k, hk, rfl, hall, ka, hB⟩ := hrel
    clear ra HKA HB1
    have ra := ka.rule
    by_cases hlt : k < lh0
    · obtain ⟨b, off, rfl, hb, hc0, hc1, hrr⟩ := RdH.at_ (RH.out.below hB) (k := k) (by rw [ELH.out]; omega)
      clear hrr
      obtain ⟨⟨hv, hps, hA, hc⟩, hu⟩ : ∃ u, hs.getD k zH = u := ⟨_, rfl⟩
      rw [hu] at hc0 hc1
      simp only at hc0 hc1
      have HU := Lib.hid hu; clear hu
      have hup : Below w.heap.size w (wr.alloc (.cells #[.int .i64 hv, .slice hA hps.length hc] 122)) := hB.alloc hB.size _
      have kup := ka.alloc (.cells #[.int .i64 hv, .slice hA hps.length hc] 122)
      by_cases hx : hv = v
      · subst hx
        obtain ⟨e1, e2, e3⟩ := HF.out _ (hFind_at (k := k) (by rw [ELH.out]; omega) hall.out (by rw [HU.out]))
        rw [HU.out] at e1 e2 e3
        simp only at e1 e2 e3
        clear HF
        subst e1
        subst e2
        subst e3
        go_wp2
        go_ret
        exact ⟨rfl, hup⟩
      · have hx' : (hv == v) = false := by simpa using hx
        have HX := Lib.hid hx; clear hx
        go_wp2
        go_roundw
        case rel =>
          refine ⟨k + 1, by omega, by go_num, fun j hj => ?_, kup, hup⟩
          by_cases e : j = k
          · rw [e, HU.out]; exact HX.out
          · exact hall.out j (by omega)
        case measure => simp [intOf]; omega
    · obtain ⟨e1, e2, e3⟩ := HF.out _ (hFind_no fun j hj => hall.out j (by rw [ELH.out] at hj; omega))
      simp only [zH] at e1 e2 e3
      subst e1 e2 e3
      go_wp2
      go_ret
      exact ⟨rfl, hB⟩
set_option maxHeartbeats 3200000 in
theorem specHear_is (q : Rq) (v : Int) (w : World) (hr : RdQ w w.heap.size q) (hf : FewQ q) :
    Calls Try.prog 19 #[q.agg, .int .i64 v] w (NRes (hfrC q.dat v) w) := by
  obtain ⟨i0, hi0, hz0, hz1, hz2⟩ := info_parts infoI
  obtain ⟨g, hg⟩ : ∃ g, repQ q.dat = g := ⟨_, rfl⟩
  have HC := Lib.hid (fun (W : World) (h : Below w.heap.size w W) => specRepOk_is g q hg W ((hr.below h).more h.size) hf)
  have HS := Lib.hid (fun (W : World) (h : Below w.heap.size w W) => l4heard_is q v W ((hr.below h).more h.size) hf)
  have hz' : hfrC q.dat v = (if g then (hFind q.hs v).ps.map (fun p => p.r.f) else []) := by rw [hFind_from, ← hg]; rfl
  have RR := Lib.hid (hFind_rd hr.h v)
  have hfw := (hFind_few hf.h v).1
  rw [hz']
  obtain ⟨⟨hv0, ps, hA, hc⟩, hH⟩ : ∃ h, hFind q.hs v = h := ⟨_, rfl⟩
  rw [hH] at HS RR hfw ⊢
  simp only at HS RR hfw ⊢
  clear hH hz' hg
  obtain ⟨n, id, own, view, left, voted, lv, lx, dn, pr, vo, re, ds, hs, Av, Ap, Ao, Ar, Ad, Ah, cv, cp, co, cr, cd, ch⟩ := q
  obtain ⟨rv, rp, ro, rr, rd, rh⟩ := hr
  obtain ⟨fv, fp, fo, fr, fd, fh⟩ := hf
  simp only [Rq.agg, Rq.cells] at HC HS ⊢
  obtain ⟨lv0, elv0⟩ : ∃ m, voted.length = m := ⟨_, rfl⟩
  obtain ⟨lp0, elp0⟩ : ∃ m, pr.length = m := ⟨_, rfl⟩
  obtain ⟨lo0, elo0⟩ : ∃ m, vo.length = m := ⟨_, rfl⟩
  obtain ⟨lr0, elr0⟩ : ∃ m, re.length = m := ⟨_, rfl⟩
  obtain ⟨ld0, eld0⟩ : ∃ m, ds.length = m := ⟨_, rfl⟩
  obtain ⟨lh0, elh0⟩ : ∃ m, hs.length = m := ⟨_, rfl⟩
  simp only [elv0, elp0, elo0, elr0, eld0, elh0] at HC HS ⊢
  clear elv0 elp0 elo0 elr0 eld0 elh0 rv rp ro rr rd rh fv fp fo fr fd fh
  obtain ⟨L, hL⟩ : ∃ L : List Int, (if g then ps.map (fun p => p.r.f) else []) = L := ⟨_, rfl⟩
  rw [hL]
  have HLL := Lib.hid hL; clear hL
  obtain ⟨np, enp⟩ : ∃ m, ps.length = m := ⟨_, rfl⟩
  rw [enp] at HS hfw
  have ENP := Lib.hid enp; clear enp
  have ka := Blk.new w 40 #[.int .i64 n, .int .i64 id, .int .i64 own, .int .i64 view, .int .i64 left, .slice Av lv0 cv, .int .i64 lv, .int .i64 lx, .int .i64 dn, .slice Ap lp0 cp, .slice Ao lo0 co, .slice Ar lr0 cr, .slice Ad ld0 cd, .slice Ah lh0 ch]
  have hB := up_ (Below.refl w.heap.size w) (.cells #[.int .i64 n, .int .i64 id, .int .i64 own, .int .i64 view, .int .i64 left, .slice Av lv0 cv, .int .i64 lv, .int .i64 lx, .int .i64 dn, .slice Ap lp0 cp, .slice Ao lo0 co, .slice Ar lr0 cr, .slice Ad ld0 cd, .slice Ah lh0 ch] 40)
  have ra := ka.rule
  go_enter Try.func19, Try.ntmps19
  go_wp2_with fail
  refine (HC.out _ hB).mono ?_
  rintro e w1 ⟨rfl, hb⟩
  have ka1 := ka.on hb; have hB1 := on_ hB hb; clear ra ka hB hb; have ra := ka1.rule
  rcases g with _ | _
  · go_wp2
    go_ret
    have e0 : L = [] := HLL.out.symm
    rw [e0]
    exact ⟨.slice none 0 0, rfl, World.ownsRow_nil _ _ _ _, hB1⟩
  · go_wp2_with fail
    refine (HS.out _ hB1).mono ?_
    rintro e w2 ⟨rfl, hb⟩
    have hB2 := on_ hB1 hb; clear ra ka1 hB1 hb HC HS
    have HB2 := Lib.hid hB2; clear hB2
    go_wp2
    go_loopw [5, 7] (fun out i wr => ∃ (k : Nat), k ≤ np ∧ i = .int .i64 k ∧ wr.ownsRow w.heap.size 3 1 out k (ic ((ps.take k).map (fun p => p.r.f))) ∧ Hid (Below w.heap.size w wr)) (fun _ i _ => np - (intOf i).toNat)
    case atStart => exact ⟨0, Nat.zero_le _, rfl, World.ownsRow_nil _ _ _ _, HB2.out⟩
    case round =>
      clear HB2
      obtain ⟨k, hk, rfl, hown, hB⟩ := hrel
      have hwz := hB.out.size
      by_cases hlt : k < np
      · obtain ⟨b, off, rfl, hb, hc0, hc1, hc2, hc3, hrr⟩ := RdR.at_ (RR.out.below hB.out) (k := k) (by rw [ENP.out]; exact hlt)
        clear hrr
        have htk : Hid (ic ((ps.take (k + 1)).map (fun p => p.r.f)) = ic ((ps.take k).map (fun p => p.r.f)) ++ [.int .i64 (ps.getD k zP).r.f]) := by
          show _ = _
          rw [take_getD ps zP k (by rw [ENP.out]; exact hlt)]
          simp [ic]
        obtain ⟨⟨⟨rf, rv, rx, rvs⟩, rA, rc⟩, hu⟩ : ∃ u, ps.getD k zP = u := ⟨_, rfl⟩
        rw [hu] at hc0 hc1 hc2 hc3 htk
        simp only at hc0 hc1 hc2 hc3 htk
        clear hu
        go_wp2_with (at_builtin; refine wpList_append_any _ rfl (.tmp 20) (.tmp 26) 52 rfl w.heap.size 3 i0 _ 1 8 Try.underlying52 hi0 hz0 hz1 hz2 rfl (by omega) u5 k _ rfl (hown.alloc _) _ _ 1 1 [.int .i64 rf] rfl (lit_int _ _) (by simp [Value.oneCell']) (by simp only [maxLen]; omega) (by omega) (by simp; omega) ?_; intro v2 w3 hown2 hgr2 hat2)
        have hB3 := (hB.out.alloc hwz (.cells #[.int .i64 rf] 3)).grown hgr2 (by simp; omega) (fun j hj => (hown.lt j hj).1)
        go_roundw
        case rel => exact ⟨k + 1, by omega, by go_num, by show World.ownsRow _ _ _ _ _ _ _; rw [htk.out]; exact hown2, hB3⟩
        case measure => simp [intOf]; omega
      · obtain rfl : k = np := by omega
        go_wp2
        go_ret
        have e1 : (ps.take k).map (fun p => p.r.f) = L := by rw [← HLL.out, List.take_of_length_le (by rw [ENP.out]; exact Nat.le_refl _)]; rfl
        rw [e1] at hown
        have e2 : L.length = k := by rw [← e1, List.length_map, List.length_take, ENP.out]; omega
        refine ⟨_, rfl, ?_, hB.out⟩
        rw [e2]
        exact hown
set_option maxHeartbeats 3200000 in
theorem implHear_is (q : Rq) (v : Int) (w : World) (hr : RdQ w w.heap.size q) (hf : FewQ q) :
    Calls Try.prog 20 #[q.agg, .int .i64 v] w (NRes (hfrC q.dat v) w) := by
  obtain ⟨i0, hi0, hz0, hz1, hz2⟩ := info_parts infoI
  obtain ⟨g, hg⟩ : ∃ g, repQ q.dat = g := ⟨_, rfl⟩
  have HC := Lib.hid (fun (W : World) (h : Below w.heap.size w W) => implRepOk_is g q hg W ((hr.below h).more h.size) hf)
  have HS := Lib.hid (fun (W : World) (h : Below w.heap.size w W) => reportsIn_is q v W ((hr.below h).more h.size) hf)
  have hz' : hfrC q.dat v = (if g then (hFind q.hs v).ps.map (fun p => p.r.f) else []) := by rw [hFind_from, ← hg]; rfl
  have RR := Lib.hid (hFind_rd hr.h v)
  have hfw := (hFind_few hf.h v).1
  rw [hz']
  obtain ⟨⟨hv0, ps, hA, hc⟩, hH⟩ : ∃ h, hFind q.hs v = h := ⟨_, rfl⟩
  rw [hH] at HS RR hfw ⊢
  simp only at HS RR hfw ⊢
  clear hH hz' hg
  obtain ⟨n, id, own, view, left, voted, lv, lx, dn, pr, vo, re, ds, hs, Av, Ap, Ao, Ar, Ad, Ah, cv, cp, co, cr, cd, ch⟩ := q
  obtain ⟨rv, rp, ro, rr, rd, rh⟩ := hr
  obtain ⟨fv, fp, fo, fr, fd, fh⟩ := hf
  simp only [Rq.agg, Rq.cells] at HC HS ⊢
  obtain ⟨lv0, elv0⟩ : ∃ m, voted.length = m := ⟨_, rfl⟩
  obtain ⟨lp0, elp0⟩ : ∃ m, pr.length = m := ⟨_, rfl⟩
  obtain ⟨lo0, elo0⟩ : ∃ m, vo.length = m := ⟨_, rfl⟩
  obtain ⟨lr0, elr0⟩ : ∃ m, re.length = m := ⟨_, rfl⟩
  obtain ⟨ld0, eld0⟩ : ∃ m, ds.length = m := ⟨_, rfl⟩
  obtain ⟨lh0, elh0⟩ : ∃ m, hs.length = m := ⟨_, rfl⟩
  simp only [elv0, elp0, elo0, elr0, eld0, elh0] at HC HS ⊢
  clear elv0 elp0 elo0 elr0 eld0 elh0 rv rp ro rr rd rh fv fp fo fr fd fh
  obtain ⟨L, hL⟩ : ∃ L : List Int, (if g then ps.map (fun p => p.r.f) else []) = L := ⟨_, rfl⟩
  rw [hL]
  have HLL := Lib.hid hL; clear hL
  obtain ⟨np, enp⟩ : ∃ m, ps.length = m := ⟨_, rfl⟩
  rw [enp] at HS hfw
  have ENP := Lib.hid enp; clear enp
  have ka := Blk.new w 40 #[.int .i64 n, .int .i64 id, .int .i64 own, .int .i64 view, .int .i64 left, .slice Av lv0 cv, .int .i64 lv, .int .i64 lx, .int .i64 dn, .slice Ap lp0 cp, .slice Ao lo0 co, .slice Ar lr0 cr, .slice Ad ld0 cd, .slice Ah lh0 ch]
  have hB := up_ (Below.refl w.heap.size w) (.cells #[.int .i64 n, .int .i64 id, .int .i64 own, .int .i64 view, .int .i64 left, .slice Av lv0 cv, .int .i64 lv, .int .i64 lx, .int .i64 dn, .slice Ap lp0 cp, .slice Ao lo0 co, .slice Ar lr0 cr, .slice Ad ld0 cd, .slice Ah lh0 ch] 40)
  have ra := ka.rule
  go_enter Try.func20, Try.ntmps20
  go_wp2_with fail
  refine (HC.out _ hB).mono ?_
  rintro e w1 ⟨rfl, hb⟩
  have ka1 := ka.on hb; have hB1 := on_ hB hb; clear ra ka hB hb; have ra := ka1.rule
  rcases g with _ | _
  · go_wp2
    go_ret
    have e0 : L = [] := HLL.out.symm
    rw [e0]
    exact ⟨.slice none 0 0, rfl, World.ownsRow_nil _ _ _ _, hB1⟩
  · go_wp2_with fail
    refine (HS.out _ hB1).mono ?_
    rintro e w2 ⟨rfl, hb⟩
    have hB2 := on_ hB1 hb; clear ra ka1 hB1 hb HC HS
    have HB2 := Lib.hid hB2; clear hB2
    go_wp2
    go_loopw [5, 15] (fun out i wr => ∃ (k : Nat), k ≤ np ∧ i = .int .i64 k ∧ wr.ownsRow w.heap.size 3 1 out k (ic ((ps.take k).map (fun p => p.r.f))) ∧ Hid (Below w.heap.size w wr)) (fun _ i _ => np - (intOf i).toNat)
    case atStart => exact ⟨0, Nat.zero_le _, rfl, World.ownsRow_nil _ _ _ _, HB2.out⟩
    case round =>
      clear HB2
      obtain ⟨k, hk, rfl, hown, hB⟩ := hrel
      have hwz := hB.out.size
      by_cases hlt : k < np
      · obtain ⟨b, off, rfl, hb, hc0, hc1, hc2, hc3, hrr⟩ := RdR.at_ (RR.out.below hB.out) (k := k) (by rw [ENP.out]; exact hlt)
        clear hrr
        have htk : Hid (ic ((ps.take (k + 1)).map (fun p => p.r.f)) = ic ((ps.take k).map (fun p => p.r.f)) ++ [.int .i64 (ps.getD k zP).r.f]) := by
          show _ = _
          rw [take_getD ps zP k (by rw [ENP.out]; exact hlt)]
          simp [ic]
        obtain ⟨⟨⟨rf, rv, rx, rvs⟩, rA, rc⟩, hu⟩ : ∃ u, ps.getD k zP = u := ⟨_, rfl⟩
        rw [hu] at hc0 hc1 hc2 hc3 htk
        simp only at hc0 hc1 hc2 hc3 htk
        clear hu
        have kb := Blk.new wr 89 #[.int .i64 rf, .int .i64 rv, .int .i64 rx, .slice rA rvs.length rc]
        have hBu := Lib.hid (hB.out.alloc hwz (.cells #[.int .i64 rf, .int .i64 rv, .int .i64 rx, .slice rA rvs.length rc] 89))
        have hou := hown.alloc (.cells #[.int .i64 rf, .int .i64 rv, .int .i64 rx, .slice rA rvs.length rc] 89)
        have rb := kb.rule
        go_wp2_with (at_builtin; (refine wpList_append_any _ rfl (.tmp 19) (.tmp 22) 52 rfl w.heap.size 3 i0 _ 1 8 Try.underlying52 hi0 hz0 hz1 hz2 rfl (by omega) u5 k _ rfl (hou.alloc _) _ _ 1 1 [.int .i64 rf] rfl (litg _ _ _ (World.size_alloc _ _)) (by simp [Value.oneCell']) (by simp only [maxLen]; omega) (by omega) (by simp; omega) ?_); intro v2 w3 hown2 hgr2 hat2)
        have hB3 := (hBu.out.alloc (by simp; omega) (.cells #[.int .i64 rf] 3)).grown hgr2 (by simp; omega) (fun j hj => (hown.lt j hj).1)
        go_roundw
        case rel => exact ⟨k + 1, by omega, by go_num, by show World.ownsRow _ _ _ _ _ _ _; rw [htk.out]; exact hown2, hB3⟩
        case measure => simp [intOf]; omega
      · obtain rfl : k = np := by omega
        go_wp2
        go_ret
        have e1 : (ps.take k).map (fun p => p.r.f) = L := by rw [← HLL.out, List.take_of_length_le (by rw [ENP.out]; exact Nat.le_refl _)]; rfl
        rw [e1] at hown
        have e2 : L.length = k := by rw [← e1, List.length_map, List.length_take, ENP.out]; omega
        refine ⟨_, rfl, ?_, hB.out⟩
        rw [e2]
        exact hown
theorem hfr_small (q : Rq) (v : Int) (hf : FewQ q) : (hfrC q.dat v).length ≤ 1048576 := by
  unfold hfrC
  split
  · rw [show q.dat.hs = hl q.hs from rfl, ← hFind_from, List.length_map]
    exact (hFind_few hf.h v).1
  · simp
end Go.Proofs.Ytfdfjmibjnmhpaa.V

namespace Go.Proofs.Ytfdfjmibjnmhpaa.B
open Go.RowKit

/-- A slice value at address A reads, below block Bd, as the bytes xs. -/
def RdB (w : World) (Bd : Nat) (A : Option Addr) (xs : List Int) : Prop :=
  0 < xs.length → ∃ b off, A = some ⟨b, off, none⟩ ∧ b < Bd ∧ ∀ i, i < xs.length → w.cell? ⟨b, off + i, none⟩ = some (.int .u8 (xs.getD i 0))
section
variable {w w' : World} {Bd Bd' : Nat} {A : Option Addr} {xs : List Int}
theorem RdB.keep (h : RdB w Bd A xs) (hk : ∀ b o, b < Bd → w'.cell? ⟨b, o, none⟩ = w.cell? ⟨b, o, none⟩) : RdB w' Bd A xs := fun hn => by
  obtain ⟨b, off, e, hb, hc⟩ := h hn
  exact ⟨b, off, e, hb, fun i hi => (hk _ _ hb).trans (hc i hi)⟩
theorem RdB.more (h : RdB w Bd A xs) (hB : Bd ≤ Bd') : RdB w Bd' A xs := fun hn => by
  obtain ⟨b, off, e, hb, hc⟩ := h hn
  exact ⟨b, off, e, by omega, hc⟩
theorem RdB.below (h : RdB w Bd A xs) (hb : Below Bd w w') : RdB w' Bd A xs := h.keep fun _ _ hp => hb.cell hp
theorem RdB.alloc (h : RdB w Bd A xs) (hB : Bd ≤ w.heap.size) (o : Obj) : RdB (w.alloc o) Bd A xs := h.keep fun b o' hp => World.cell?_alloc_lt w o ⟨b, o', none⟩ (by simpa using (show b < w.heap.size by omega))
theorem RdB.on (h : RdB w w.heap.size A xs) (hb : Below w.heap.size w w') : RdB w' w'.heap.size A xs := (h.below hb).more hb.size
theorem RdB.up (h : RdB w w.heap.size A xs) (O : Obj) : RdB (w.alloc O) (w.alloc O).heap.size A xs := (h.alloc (Nat.le_refl _) O).more (by simp)
theorem RdB.nil_ : RdB w Bd A [] := fun h => absurd h (by simp)
theorem RdB.at_ (h : RdB w Bd A xs) {k : Nat} (hk : k < xs.length) : ∃ b off, A = some ⟨b, off, none⟩ ∧ b < Bd ∧ w.cell? ⟨b, off + k, none⟩ = some (.int .u8 (xs.getD k 0)) := by
  obtain ⟨b, off, rfl, hb, hc⟩ := h (by omega)
  exact ⟨b, off, rfl, hb, hc k hk⟩
end

/-- The first k bytes of xs stand in the cells cs. -/
def PB (cs : Array Value) (xs : List Int) (k : Nat) : Prop := xs.length ≤ cs.size ∧ ∀ i, i < k → cs[i]? = some (.int .u8 (xs.getD i 0))
theorem PB.zero {cs : Array Value} {xs : List Int} (h : xs.length ≤ cs.size) : PB cs xs 0 := ⟨h, fun i hi => absurd hi (by omega)⟩
theorem PB.step {cs : Array Value} {xs : List Int} {k : Nat} (h : PB cs xs k) (hk : k < xs.length) : PB (cs.setIfInBounds k (.int .u8 (xs.getD k 0))) xs (k + 1) := by
  refine ⟨by simpa using h.1, fun i hi => ?_⟩
  have hs := h.1
  by_cases e : i = k
  · subst e
    rw [Array.getElem?_setIfInBounds_self_of_lt (by omega)]
  · rw [Array.getElem?_setIfInBounds_ne (by omega)]
    exact h.2 i (by omega)
theorem PB.rd {w : World} {g t Bd : Nat} {cs : Array Value} {xs : List Int} (h : PB cs xs xs.length) (hb : Blk w g t cs) (hg : g < Bd) : RdB w Bd (some ⟨g, 0, none⟩) xs :=
  fun _ => ⟨g, 0, rfl, hg, fun i hi => by rw [Nat.zero_add, hb.cell]; exact h.2 i hi⟩

/-- A slice of bytes of the call's own: nil, or a row of its own whose first cells are xs. -/
def OB (w : World) (t base : Nat) (A : Option Addr) (xs : List Int) : Prop := (A = none ∧ xs = []) ∨ ∃ g cur, A = some ⟨g, 0, none⟩ ∧ base ≤ g ∧ Blk w g t cur ∧ PB cur xs xs.length
theorem OB.nil_ {w : World} {t base : Nat} : OB w t base none [] := .inl ⟨rfl, rfl⟩
theorem OB.of_own {w : World} {base t n c : Nat} {A : Option Addr} {xs : List Int} (h : w.ownsRow base t 1 (.slice A n c) n (xs.map (Value.int .u8))) : n = xs.length ∧ OB w t base A xs := by
  obtain ⟨hl, h⟩ := h
  have hn : n = xs.length := by simpa using hl.symm
  refine ⟨hn, ?_⟩
  rcases h with ⟨h1, h2⟩ | ⟨g, cap, cur, h1, h2, h3, h4, h5, h6, h7⟩
  · injection h1 with h1
    exact .inl ⟨h1, List.eq_nil_of_length_eq_zero (by omega)⟩
  · injection h1 with h1
    refine .inr ⟨g, cur, h1, h2, h3, by omega, fun i hi => ?_⟩
    have hi' : i < n := by omega
    have : (cur.toList.take (n * 1))[i]? = some (.int .u8 (xs.getD i 0)) := by
      rw [h7]
      simp [List.getD, List.getElem?_eq_getElem hi]
    rw [List.getElem?_take_of_lt (by omega)] at this
    simpa using this
theorem OB.rd {w : World} {t base : Nat} {A : Option Addr} {xs : List Int} (h : OB w t base A xs) : RdB w w.heap.size A xs := by
  rcases h with ⟨rfl, rfl⟩ | ⟨g, cur, rfl, _, hb, hp⟩
  · exact RdB.nil_
  · exact hp.rd hb hb.lt
theorem OB.on {w w' : World} {t base : Nat} {A : Option Addr} {xs : List Int} (h : OB w t base A xs) (hb : Below w.heap.size w w') : OB w' t base A xs := by
  rcases h with ⟨rfl, rfl⟩ | ⟨g, cur, rfl, hg, hk, hp⟩
  · exact OB.nil_
  · exact .inr ⟨g, cur, rfl, hg, hk.on hb, hp⟩
end Go.Proofs.Ytfdfjmibjnmhpaa.B

namespace Go.Proofs.Ytfdfjmibjnmhpaa.V
open Go.RowKit Go.Proofs.Ytfdfjmibjnmhpaa.B

set_option maxHeartbeats 400000 in
theorem eqByteS_same (A C : Option Addr) (c d : Nat) (xs : List Int) (w : World) (hr : RdB w w.heap.size A xs) (hs : RdB w w.heap.size C xs) (hn : xs.length ≤ 16777216) :
    Calls Try.prog 101 #[.slice A xs.length c, .slice C xs.length d] w fun e w' => e = .returned (.bool true) ∧ Below w.heap.size w w' := by
  obtain ⟨n, hvn⟩ : ∃ n, xs.length = n := ⟨_, rfl⟩
  rw [hvn] at hn ⊢
  have HV := Lib.hid hvn; clear hvn
  go_enter Try.func101, Try.ntmps101
  go_wp2
  go_loopw [5] (fun i wr => ∃ (k : Nat), k ≤ n ∧ i = .int .i64 k ∧ Below w.heap.size w wr) (fun i _ => n - (intOf i).toNat)
  case atStart => exact ⟨0, Nat.zero_le _, rfl, Below.refl _ _⟩
  case round =>
    obtain ⟨k, hk, rfl, hbel⟩ := hrel
    by_cases hlt : k < n
    · obtain ⟨b, off, rfl, hb, hc0⟩ := (hr.below hbel).at_ (k := k) (by rw [HV.out]; omega)
      obtain ⟨b', off', rfl, hb', hc1⟩ := (hs.below hbel).at_ (k := k) (by rw [HV.out]; omega)
      clear hr hs
      generalize xs.getD k 0 = y at *
      have C0 := fun x : Lat wr => x.cell hc0
      have C1 := fun x : Lat wr => x.cell hc1
      have hne : (y != y) = false := by simp
      go_wp2
      refine wp_region_lat (by kernel_rfl) (by kernel_rfl) ?_
      repeat (go_big_quiet_step (fail))
      refine wpQuiet_nil ?_
      rintro _ ⟨⟨w3, hb3⟩, rfl⟩
      clear C0 C1
      go_wp2
      go_roundw
      case rel => exact ⟨k + 1, by omega, by go_num, hbel.trans (hb3.mono hbel.size)⟩
      case measure => simp [intOf]; omega
    · go_wp2
      go_ret
      exact ⟨rfl, hbel⟩

/-- The cells cs bear the marks k, k+1, .. as bytes in the n first places. -/
def MKB (cs : Array Value) (k : Int) (n : Nat) : Prop := ∀ i, i < n → cs[i]? = some (.int .u8 ((k + i) % 256))

theorem MKB.step {cs : Array Value} {k : Int} {j : Nat} (h : MKB cs k j) (hs : j < cs.size) : MKB (cs.setIfInBounds j (.int .u8 ((k + j) % 256))) k (j + 1) := by
  intro i hi
  by_cases e : i = j
  · subst e
    rw [Array.getElem?_setIfInBounds_self_of_lt hs]
  · rw [Array.getElem?_setIfInBounds_ne (by omega)]
    exact h i (by omega)
theorem only_setB {a w : World} {g : Nat} (h : a.grownBy w (some g)) (i : Nat) (u : Value) : a.grownBy (w.setCell ⟨g, i, none⟩ u) (some g) :=
  ⟨h.os, h.tape, h.output, by simpa [World.setCell] using h.size, fun j hj hne => (Below.heap_setCell w ⟨g, i, none⟩ u j (by
    rintro rfl
    exact hne rfl)).trans (h.block j hj hne)⟩

/-- Whatever row of the call's own it is: the marks are laid, and found again as long as the row is as it was. -/
def MB (w : World) (t base : Nat) (A : Option Addr) (n : Nat) (k : Int) : Prop := n = 0 ∨ ∃ g cur, A = some ⟨g, 0, none⟩ ∧ base ≤ g ∧ Blk w g t cur ∧ MKB cur k n
theorem MB.on {w w' : World} {t base n : Nat} {A : Option Addr} {k : Int} (h : MB w t base A n k) (hb : Below w.heap.size w w') : MB w' t base A n k := by
  rcases h with h | ⟨g, cur, rfl, hg, hk, hp⟩
  · exact .inl h
  · exact .inr ⟨g, cur, rfl, hg, hk.on hb, hp⟩
end Go.Proofs.Ytfdfjmibjnmhpaa.V
