/-
  What the helpers of the laws do with tallies: copies, comparison, marks. No statement is proved here.
-/
import Derived.Test.YtfdfjmibjnmhpaaBal3
import Derived.Test.YtfdfjmibjnmhpaaBal
set_option linter.unusedVariables false
set_option maxRecDepth 100000
namespace Go.Proofs.Ytfdfjmibjnmhpaa.B
open Go.RowKit
end Go.Proofs.Ytfdfjmibjnmhpaa.B

namespace Go.Proofs.Ytfdfjmibjnmhpaa.V
open Go.RowKit Go.Proofs.Ytfdfjmibjnmhpaa.B

set_option maxRecDepth 100000 in
set_option maxHeartbeats 800000 in
theorem eqBallotS_same (A C : Option Addr) (c d : Nat) (vs : List B3) (w : World) (hr : Rd3 w w.heap.size A vs) (hs : Rd3 w w.heap.size C vs) (hn : vs.length ≤ 1048576) :
    Calls Try.prog 90 #[.slice A vs.length c, .slice C vs.length d] w fun e w' => e = .returned (.bool true) ∧ Below w.heap.size w w' := by
  obtain ⟨n, hvn⟩ : ∃ n, vs.length = n := ⟨_, rfl⟩
  rw [hvn] at hn ⊢
  have HV := Lib.hid hvn; clear hvn
  have hne : ∀ i : Int, (i != i) = false := fun i => by simp
  go_enter Try.func90, Try.ntmps90
  go_wp2
  go_loopw [5] (fun i wr => ∃ (k : Nat), k ≤ n ∧ i = .int .i64 k ∧ Below w.heap.size w wr) (fun i _ => n - (intOf i).toNat)
  case atStart => exact ⟨0, Nat.zero_le _, rfl, Below.refl _ _⟩
  case round =>
    obtain ⟨k, hk, rfl, hbel⟩ := hrel
    by_cases hlt : k < n
    · obtain ⟨b, off, rfl, hb, hc0, hc1, hc2⟩ := Rd3.at_ (hr.below hbel) (k := k) (by rw [HV.out]; omega)
      obtain ⟨b', off', rfl, hb', hc0', hc1', hc2'⟩ := Rd3.at_ (hs.below hbel) (k := k) (by rw [HV.out]; omega)
      clear hr hs
      obtain ⟨⟨va, vb, vc⟩, hu⟩ : ∃ u, vs.getD k z3 = u := ⟨_, rfl⟩
      rw [hu] at hc0 hc1 hc2 hc0' hc1' hc2'
      clear hu
      go_wp2
      go_still_tail 8, (by kernel_rfl)
      have hbd : Below w.heap.size w wr.drew := hbel.drew
      change wpList _ _ _ _ _ wr.drew
      generalize wr.drew = w2 at *
      go_wp2_with (go_at_call 115; refine (eqBallot_same _ _ _ _).mono ?_; rintro e w1 ⟨rfl, hb1⟩)
      go_roundw
      case rel => exact ⟨k + 1, by omega, by go_num, hbd.trans (hb1.mono hbd.size)⟩
      case measure => simp [intOf]; omega
    · go_wp2
      go_ret
      exact ⟨rfl, hbel⟩

theorem toTally_any (A : Option Addr) (c : Nat) (vs : List B3) (w : World) (hr : Rd3 w w.heap.size A vs) (hn : vs.length ≤ 1048576) :
    Calls Try.prog 40 #[.agg #[.slice A vs.length c]] w fun e w' => ∃ g cs, e = .returned (.agg #[.slice (some ⟨g, 0, none⟩) vs.length vs.length]) ∧ w.heap.size ≤ g ∧ Blk w' g 119 cs ∧ PC3 cs vs vs.length ∧ Below w.heap.size w w' := by
  have hr3 := ((hr.up (.cells #[.slice A vs.length c] 27)).up (.cells #[.slice none 0 0] 37)).up (.cells #[.slice none 0 0] 37)
  have ko := Blk.new ((w.alloc (.cells #[.slice A vs.length c] 27)).alloc (.cells #[.slice none 0 0] 37)) 37 #[.slice none 0 0]
  have kr := (Blk.new (w.alloc (.cells #[.slice A vs.length c] 27)) 37 #[.slice none 0 0]).alloc (.cells #[.slice none 0 0] 37)
  simp only [World.size_alloc] at ko kr
  have HR := Lib.hid hr3; clear hr3 hr
  go_enter Try.func40, Try.ntmps40
  go_wp2_with fail
  refine (toBallotS_any A c vs _ HR.out hn).mono ?_
  rintro e w1 ⟨g, cs, rfl, hg, hk, hp, hb1⟩
  have ko1 := ko.on hb1
  have kr1 := kr.on hb1
  have hB1 := on_ (up_ (up_ (up_ (Below.refl w.heap.size w) _) _) _) hb1
  have hs1 := hb1.size
  simp only [World.size_alloc] at hs1 hg
  have HP := Lib.hid hp
  clear hb1 ko kr hp
  have ro1 := ko1.rule
  have fo1 := fun i => ko1.frozen i
  have ko2 : Blk (w1.setCell ⟨w.heap.size + 1 + 1, 0, none⟩ (.slice (some ⟨g, 0, none⟩) vs.length vs.length)) (w.heap.size + 1 + 1) 37 #[.slice (some ⟨g, 0, none⟩) vs.length vs.length] := ko1.set_ 0 _
  have kr2 := kr1.far (p := ⟨w.heap.size + 1 + 1, 0, none⟩) (by simp) (.slice (some ⟨g, 0, none⟩) vs.length vs.length)
  have ro2 := ko2.rule
  have rr2 := kr2.rule
  have fr2 := fun i => kr2.frozen i
  have kr3 : Blk ((w1.setCell ⟨w.heap.size + 1 + 1, 0, none⟩ (.slice (some ⟨g, 0, none⟩) vs.length vs.length)).setCell ⟨w.heap.size + 1, 0, none⟩ (.slice (some ⟨g, 0, none⟩) vs.length vs.length)) (w.heap.size + 1) 37 #[.slice (some ⟨g, 0, none⟩) vs.length vs.length] := kr2.set_ 0 _
  have rr3 := kr3.rule
  go_wp2
  refine bodyPost_ret (v := .agg #[.slice (some ⟨g, 0, none⟩) vs.length vs.length]) (by simp [results, Try.results40, go_sem, rr3]) rfl ⟨g, cs, rfl, by omega, ?_, HP.out, ?_⟩
  · iterate 2 refine Blk.far ?_ (by simp; omega) _
    exact hk
  · iterate 2 refine Below.setCell ?_ (by simp <;> omega) _
    exact hB1

theorem eqTally_same (A C : Option Addr) (c d : Nat) (vs : List B3) (w : World) (hr : Rd3 w w.heap.size A vs) (hs : Rd3 w w.heap.size C vs) (hn : vs.length ≤ 1048576) :
    Calls Try.prog 46 #[.agg #[.slice A vs.length c], .agg #[.slice C vs.length d]] w fun e w' => e = .returned (.bool true) ∧ Below w.heap.size w w' := by
  have hr2 := (hr.up (.cells #[.slice A vs.length c] 37)).up (.cells #[.slice C vs.length d] 37)
  have hs2 := (hs.up (.cells #[.slice A vs.length c] 37)).up (.cells #[.slice C vs.length d] 37)
  have HR := Lib.hid hr2
  have HS := Lib.hid hs2
  clear hr2 hs2 hr hs
  go_enter Try.func46, Try.ntmps46
  go_wp2_with fail
  refine (eqBallotS_same A C c d vs _ HR.out HS.out hn).mono ?_
  rintro e w1 ⟨rfl, hb1⟩
  have hB1 := on_ (up_ (up_ (Below.refl w.heap.size w) _) _) hb1
  clear hb1
  go_wp2
  go_ret
  exact ⟨rfl, hB1⟩

/-- Only block g, and what is new, may have turned. -/
theorem only_set3 {a w : World} {g : Nat} (h : a.grownBy w (some g)) (i : Nat) (u : Value) : a.grownBy (w.setCell ⟨g, i, none⟩ u) (some g) :=
  ⟨h.os, h.tape, h.output, by simpa [World.setCell] using h.size, fun j hj hne => (Below.heap_setCell w ⟨g, i, none⟩ u j (by
    rintro rfl
    exact hne rfl)).trans (h.block j hj hne)⟩
theorem grown_alloc3 {w w' : World} {o : Obj} {row : Option Nat} (h : (w.alloc o).grownBy w' row) : w.grownBy w' row :=
  ⟨h.os, h.tape, h.output, Nat.le_trans (by simp) h.size, fun i hi hne => (h.block i (by simp; omega) hne).trans (Below.heap_alloc w o i hi)⟩

set_option maxHeartbeats 800000 in
theorem markB3_any (g n c : Nat) (t : TypeId) (cs : Array Value) (k : Int) (w : World) (hb : Blk w g t cs) (hs : n * 3 ≤ cs.size) (hn : n ≤ 1048576) (h0 : 0 ≤ k) (h1 : k ≤ 16777216) :
    Calls Try.prog 93 #[.slice (some ⟨g, 0, none⟩) n c, .int .i64 k] w fun e w' =>
      e = .returned (.int .i64 (k + 3 * n)) ∧ ∃ cs', Blk w' g t cs' ∧ cs'.size = cs.size ∧ MK3 cs' k n ∧ w.grownBy w' (some g) := by
  have HS := Lib.hid hs; clear hs
  go_enter Try.func93, Try.ntmps93
  go_wp2
  go_loopw [1, 5] (fun kk i wr => ∃ (j : Nat) (ds : Array Value), j ≤ n ∧ i = .int .i64 j ∧ kk = .int .i64 (k + 3 * j) ∧ Blk wr g t ds ∧ Hid (ds.size = cs.size) ∧ Hid (MK3 ds k j) ∧ w.grownBy wr (some g)) (fun _ i _ => n - (intOf i).toNat)
  case atStart => exact ⟨0, cs, Nat.zero_le _, rfl, by simp, hb, rfl, fun i hi => absurd hi (by omega), World.grownBy.refl w _⟩
  case round =>
    obtain ⟨j, ds, hj, rfl, rfl, hblk, hsz, hmk, hgr⟩ := hrel
    by_cases hlt : j < n
    · have hlen : j * 3 + 2 < ds.size := by have := hsz.out; have := HS.out; omega
      obtain ⟨y0, hx0⟩ : ∃ y, ds[j * 3]? = some y := ⟨_, Array.getElem?_eq_getElem (by omega)⟩
      obtain ⟨y1, hx1⟩ : ∃ y, ds[j * 3 + 1]? = some y := ⟨_, Array.getElem?_eq_getElem (by omega)⟩
      obtain ⟨y2, hx2⟩ : ∃ y, ds[j * 3 + 2]? = some y := ⟨_, Array.getElem?_eq_getElem (by omega)⟩
      have hc0 := (hblk.cell (j * 3)).trans hx0
      have hc1 := (hblk.cell (j * 3 + 1)).trans hx1
      have hc2 := (hblk.cell (j * 3 + 2)).trans hx2
      have hf0 := hblk.frozen (j * 3)
      have hf1 := hblk.frozen (j * 3 + 1)
      have hf2 := hblk.frozen (j * 3 + 2)
      have HM : Hid (MK3 (((ds.setIfInBounds (j * 3) (.int .i64 (k + 3 * j))).setIfInBounds (j * 3 + 1) (.int .i64 (k + 3 * j + 1))).setIfInBounds (j * 3 + 2) (.int .i64 (k + 3 * j + 1 + 1))) k (j + 1)) := MK3.step hmk.out hlen
      have HZ : Hid ((((ds.setIfInBounds (j * 3) (.int .i64 (k + 3 * j))).setIfInBounds (j * 3 + 1) (.int .i64 (k + 3 * j + 1))).setIfInBounds (j * 3 + 2) (.int .i64 (k + 3 * j + 1 + 1))).size = cs.size) := by rw [Array.size_setIfInBounds, Array.size_setIfInBounds, Array.size_setIfInBounds]; exact hsz.out
      clear hx0 hx1 hx2 hmk hsz hlen
      go_wp2
      go_roundw
      case rel => exact ⟨j + 1, _, by omega, by go_num, by congr 1; simp; omega, ((hblk.set_ _ _).set_ _ _).set_ _ _, HZ, HM, only_set3 (only_set3 (only_set3 hgr _ _) _ _) _ _⟩
      case measure => simp [intOf]; omega
    · have hjn : j = n := by omega
      subst hjn
      go_wp2
      go_ret
      exact ⟨rfl, ds, hblk, hsz.out, hmk.out, hgr⟩
end Go.Proofs.Ytfdfjmibjnmhpaa.V
