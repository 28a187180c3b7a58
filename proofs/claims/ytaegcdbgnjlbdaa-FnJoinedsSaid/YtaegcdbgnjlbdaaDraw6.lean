/-
  The model's draws of a tally beside numbers, and alone. No statement is proved here.
-/
import Derived.Test.YtaegcdbgnjlbdaaDraw5
set_option linter.unusedVariables false
set_option maxRecDepth 100000
namespace Go.Proofs.Ytaegcdbgnjlbdaa.V
open Go.RowKit Go.Proofs.Ytaegcdbgnjlbdaa.B

theorem litS (W : World) : ∀ k, k < 4 → (W.alloc (.cells #[.int .i64 4, .int .i64 7, .int .i64 4, .int .i64 5] 3)).cell? ⟨W.heap.size, k, none⟩ = some (.int .i64 ([4, 7, 4, 5].getD k 0)) := fun k hk => by
  have hb := Blk.new W 3 #[.int .i64 4, .int .i64 7, .int .i64 4, .int .i64 5]
  rw [hb.cell]
  match k, hk with
  | 0, _ => rfl
  | 1, _ => rfl
  | 2, _ => rfl
  | 3, _ => rfl
/-- A drawn number of replicas, tally and view. -/
def DSil (w : World) (e : Ending) (w' : World) : Prop :=
  ∃ B d us b1, ∃ n x : Int, e = .returned (.tuple #[.int .i64 n, .agg #[.slice B us.length d], .int .i64 x]) ∧ us.length ≤ 15 ∧ OT w' 61 b1 B us ∧ w.heap.size ≤ b1 ∧ (n = 4 ∨ n = 7 ∨ n = 5) ∧ -1 ≤ x ∧ x < 3 ∧ Below w.heap.size w w'
set_option maxHeartbeats 3200000 in
theorem drawSilent_any (A : Option Addr) (n c : Nat) (hm : n ≤ maxLen) (w : World) (hr : RdC w w.heap.size A n) : Calls Try.prog 17 #[.slice A n c] w (DSil w) := by
  obtain ⟨W0, hW0⟩ : ∃ W0, w.alloc (.cells #[.slice none 0 0] 44) = W0 := ⟨_, rfl⟩
  have hB0 : Below w.heap.size w W0 := by rw [← hW0]; exact up_ (Below.refl _ _) _
  have kT0 : Blk W0 w.heap.size 44 #[.slice none 0 0] := by rw [← hW0]; exact Blk.new w _ _
  have hs0 : W0.heap.size = w.heap.size + 1 := by rw [← hW0]; simp
  have hr0 := RdC.more (RdC.below hr hB0) hB0.size
  have HW0 := Lib.hid hW0; clear hW0
  have HS0 := Lib.hid hs0; clear hs0
  go_enter Try.func17, Try.ntmps17
  go_wp2_with fail
  rw [HW0.out]
  refine (new_any A n c hm _ hr0).mono ?_
  rintro e w1 ⟨p, rfl, hc, hb1⟩
  have hp1 := (cur_lt hc).1
  have hc1 := cur_next hc (up_ (Below.refl w1.heap.size w1) (.cells #[.int .i64 4, .int .i64 7, .int .i64 4, .int .i64 5] 3))
  have hb2 := up_ hb1 (.cells #[.int .i64 4, .int .i64 7, .int .i64 4, .int .i64 5] 3)
  have HLIT := Lib.hid (litS w1)
  clear hr0 hc
  go_wp2_with fail
  refine (pick_any _ p w1.heap.size 4 4 [4, 7, 4, 5] rfl (by omega) (by omega) _ hc1 HLIT.out (by omega)).mono ?_
  rintro e w2 ⟨k, hk, rfl, hc2, hg2⟩
  have hn : [4, 7, 4, 5].getD k (0 : Int) = 4 ∨ [4, 7, 4, 5].getD k (0 : Int) = 7 ∨ [4, 7, 4, 5].getD k (0 : Int) = 5 := by
    match k, hk with
    | 0, _ => exact .inl rfl
    | 1, _ => exact .inr (.inl rfl)
    | 2, _ => exact .inl rfl
    | 3, _ => exact .inr (.inr rfl)
  generalize [4, 7, 4, 5].getD k (0 : Int) = nn at *
  have hb2' := below_cur hb2 (cur_lt hc1).2 hg2
  have hsz2 := hb2'.size
  clear hc1 hg2 HLIT hb2 hb1
  go_wp2_with fail
  refine (l2bent_any _ p w2 hc2).mono ?_
  rintro e w3 ⟨B, d, us, rfl, hul, hcap, hrd, hc3, hg3⟩
  have hd3 : DS W0 p w2.heap.size B us w3 := ⟨hc3, hrd, (cur_lt hc2).1, below_cur hb2' (cur_lt hc2).2 hg3⟩
  clear hrd hc3 hg3 hb2' hc2
  go_wp2_with fail
  refine (below_i _ p 4 (by omega) (by omega) _ hd3.cu).mono ?_
  rintro e w4 ⟨x, hx, rfl, hc4, hg4⟩
  have hd4 := hd3.cur hc4 hg4
  clear hd3 hc4 hg4
  have kT4 := kT0.below hd4.be (by have := HS0.out; omega)
  have r4 := kT4.rule
  have f4 := fun i => kT4.frozen i
  obtain ⟨e1, e2, e3⟩ := one_end (d := d) HS0.out hB0 kT0 hd4 hsz2
  have o1 := Lib.hid (hd4.2.1.set_ (p := ⟨w.heap.size, 0, none⟩) (by show w.heap.size < w2.heap.size; have := HS0.out; omega) (.slice B us.length d))
  have r5 := e1.rule
  have hW : IntKind.i64.wrap ((x : Int) - 1) = (x : Int) - 1 := IntWalk.i64_in _ (by omega)
  have hbw : w.heap.size ≤ w2.heap.size := by have := HS0.out; omega
  clear e1 e2 hd4 kT4 hsz2
  go_wp2
  exact bodyPost_ret (v := .tuple #[.int .i64 nn, .agg #[.slice B us.length d], .int .i64 ((x : Int) - 1)]) (by simp [results, Try.results17, go_sem, r5]) rfl ⟨B, d, us, _, nn, (x : Int) - 1, rfl, hul, o1.out, hbw, hn, by omega, by omega, e3⟩
set_option maxHeartbeats 1600000 in
theorem drawOpen_any (A : Option Addr) (n c : Nat) (hm : n ≤ maxLen) (w : World) (hr : RdC w w.heap.size A n) : Calls Try.prog 31 #[.slice A n c] w (DSil w) := by
  obtain ⟨W0, hW0⟩ : ∃ W0, w.alloc (.cells #[.slice none 0 0] 44) = W0 := ⟨_, rfl⟩
  have hB0 : Below w.heap.size w W0 := by rw [← hW0]; exact up_ (Below.refl _ _) _
  have kT0 : Blk W0 w.heap.size 44 #[.slice none 0 0] := by rw [← hW0]; exact Blk.new w _ _
  have hs0 : W0.heap.size = w.heap.size + 1 := by rw [← hW0]; simp
  have hr0 := RdC.more (RdC.below hr hB0) hB0.size
  have HW0 := Lib.hid hW0; clear hW0
  have HS0 := Lib.hid hs0; clear hs0
  go_enter Try.func31, Try.ntmps31
  go_wp2_with fail
  rw [HW0.out]
  refine (drawSilent_any A n c hm _ hr0).mono ?_
  rintro e w1 ⟨B, d, us, b1, nn, x, rfl, hul, hot, hb1, hn, hx0, hx1, hB1⟩
  have kT1 := kT0.below hB1 (by have := HS0.out; omega)
  have r1 := kT1.rule
  have f1 := fun i => kT1.frozen i
  have k2 := kT1.set_ 0 (.slice B us.length d)
  have r2 := k2.rule
  have o2 := Lib.hid (hot.set_ (p := ⟨w.heap.size, 0, none⟩) (by show w.heap.size < b1; have := HS0.out; omega) (.slice B us.length d))
  have hB2 := Lib.hid ((hB0.trans (hB1.mono hB0.size)).setCell (p := ⟨w.heap.size, 0, none⟩) (Nat.le_refl _) (.slice B us.length d))
  have hbw : w.heap.size ≤ b1 := by have := HS0.out; omega
  clear hot hB1 kT1 k2
  go_wp2
  exact bodyPost_ret (v := .tuple #[.int .i64 nn, .agg #[.slice B us.length d], .int .i64 x]) (by simp [results, Try.results31, go_sem, r2]) rfl ⟨B, d, us, b1, nn, x, rfl, hul, o2.out, hbw, hn, hx0, hx1, hB2.out⟩
end Go.Proofs.Ytaegcdbgnjlbdaa.V
