/-
  The model's draws of tallies beside numbers. No statement is proved here.
-/
import Derived.Test.YtfbiblomblcheaaDraw4
set_option linter.unusedVariables false
set_option maxRecDepth 100000
namespace Go.Proofs.Ytfbiblomblcheaa.V
open Go.RowKit Go.Proofs.Ytfbiblomblcheaa.B

def DW (w : World) (e : Ending) (w' : World) : Prop :=
  ∃ B d us, ∃ x y : Int, e = .returned (.tuple #[.agg #[.slice B us.length d], .int .i64 x, .int .i64 y]) ∧ us.length ≤ 15 ∧ Rd3 w' w'.heap.size B us ∧ 0 ≤ x ∧ x < 4 ∧ 0 ≤ y ∧ y < 6 ∧ Below w.heap.size w w'
/-- The drawn tally, stored into the box of the answer. -/
theorem one_end {w W0 W : World} {p b1 d : Nat} {B : Option Addr} {us : List B3} (hs0 : W0.heap.size = w.heap.size + 1) (hB0 : Below w.heap.size w W0) (kT0 : Blk W0 w.heap.size 29 #[.slice none 0 0]) (h : DS W0 p b1 B us W) (hb1 : W0.heap.size ≤ b1) :
    Blk (W.setCell ⟨w.heap.size, 0, none⟩ (.slice B us.length d)) w.heap.size 29 #[.slice B us.length d] ∧ Rd3 (W.setCell ⟨w.heap.size, 0, none⟩ (.slice B us.length d)) (W.setCell ⟨w.heap.size, 0, none⟩ (.slice B us.length d)).heap.size B us ∧ Below w.heap.size w (W.setCell ⟨w.heap.size, 0, none⟩ (.slice B us.length d)) := by
  have kT := kT0.below h.be (by omega)
  have o1 := h.2.1.set_ (p := ⟨w.heap.size, 0, none⟩) (by show w.heap.size < b1; omega) (.slice B us.length d)
  have hB : Below w.heap.size w W := hB0.trans (h.be.mono hB0.size)
  exact ⟨kT.set_ 0 _, o1.rd, Below.setCell hB (Nat.le_refl _) _⟩
set_option maxHeartbeats 6400000 in
theorem drawWinner_any (A : Option Addr) (n c : Nat) (hm : n ≤ maxLen) (w : World) (hr : RdC w w.heap.size A n) : Calls Try.prog 33 #[.slice A n c] w (DW w) := by
  obtain ⟨W0, hW0⟩ : ∃ W0, w.alloc (.cells #[.slice none 0 0] 29) = W0 := ⟨_, rfl⟩
  have hB0 : Below w.heap.size w W0 := by rw [← hW0]; exact up_ (Below.refl _ _) _
  have kT0 : Blk W0 w.heap.size 29 #[.slice none 0 0] := by rw [← hW0]; exact Blk.new w _ _
  have hs0 : W0.heap.size = w.heap.size + 1 := by rw [← hW0]; simp
  have hr0 := RdC.more (RdC.below hr hB0) hB0.size
  have HW0 := Lib.hid hW0; clear hW0
  have HS0 := Lib.hid hs0; clear hs0
  go_enter Try.func33, Try.ntmps33
  go_wp2_with fail
  rw [HW0.out]
  refine (new_any A n c hm _ hr0).mono ?_
  rintro e w1 ⟨p, rfl, hc, hb1⟩
  go_wp2_with fail
  refine (l2bent_any _ p w1 hc).mono ?_
  rintro e w2 ⟨B, d, us, rfl, hul, hcap, hrd, hc2, hg2⟩
  have hd2 : DS W0 p w1.heap.size B us w2 := ⟨hc2, hrd, (cur_lt hc).1, below_cur hb1 (cur_lt hc).2 hg2⟩
  have hb1s := hb1.size
  clear hb1 hc hrd hc2 hg2 hr0
  go_wp2_with fail
  refine (below_i _ p 4 (by omega) (by omega) _ hd2.cu).mono ?_
  rintro e w3 ⟨x, hx, rfl, hc3, hg3⟩
  have hd3 := hd2.cur hc3 hg3
  clear hd2 hc3 hg3
  go_wp2_with fail
  refine (below_i _ p 6 (by omega) (by omega) _ hd3.cu).mono ?_
  rintro e w4 ⟨y, hy, rfl, hc4, hg4⟩
  have hd4 := hd3.cur hc4 hg4
  clear hd3 hc4 hg4
  have kT4 := kT0.below hd4.be (by have := HS0.out; omega)
  have r4 := kT4.rule
  have f4 := fun i => kT4.frozen i
  obtain ⟨e1, e2, e3⟩ := one_end (d := d) HS0.out hB0 kT0 hd4 hb1s
  have r5 := e1.rule
  clear e1
  go_wp2
  exact bodyPost_ret (v := .tuple #[.agg #[.slice B us.length d], .int .i64 x, .int .i64 y]) (by simp [results, Try.results33, go_sem, r5]) rfl ⟨B, d, us, x, y, rfl, hul, e2, by omega, by omega, by omega, by omega, e3⟩
end Go.Proofs.Ytfbiblomblcheaa.V
