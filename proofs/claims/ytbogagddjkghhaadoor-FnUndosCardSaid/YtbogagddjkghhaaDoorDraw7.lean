/-
  The model's draws of a command; 'stores' of the laws. No statement is proved here.
-/
import Derived.Test.YtbogagddjkghhaaDoorPick0
import Derived.Test.YtbogagddjkghhaaDoorStDo
set_option linter.unusedVariables false
set_option maxRecDepth 100000
namespace Go.Proofs.YtbogagddjkghhaaDoor.V
open Go.RowKit Go.Proofs.YtbogagddjkghhaaDoor.B
theorem g7_two {a b c : World} {row : Option Nat} (h : a.grownBy b row) (k : b.grownBy c row) : a.grownBy c row :=
  ⟨k.os.trans h.os, k.tape.trans h.tape, k.output.trans h.output, Nat.le_trans h.size k.size, fun i hi hne => (k.block i (Nat.lt_of_lt_of_le hi h.size) hne).trans (h.block i hi hne)⟩
theorem g7_of {a b : World} (h : Below a.heap.size a b) (row : Option Nat) : a.grownBy b row := ⟨h.os, h.tape, h.output, h.size, fun i hi _ => h.block i hi⟩
theorem g7_up {a b : World} {row : Option Nat} (h : a.grownBy b row) (O : Obj) : a.grownBy (b.alloc O) row := g7_two h (g7_of ((Below.refl _ _).alloc (Nat.le_refl _) O) row)
theorem g7_set {a b : World} {row : Option Nat} (h : a.grownBy b row) {q : Addr} (hq : a.heap.size ≤ q.block) (u : Value) : a.grownBy (b.setCell q u) row :=
  ⟨h.os, h.tape, h.output, by simpa [World.setCell] using h.size, fun i hi hne => (Below.heap_setCell _ _ _ i (by omega)).trans (h.block i hi hne)⟩
theorem g7_below {a b : World} {p Bd : Nat} (h : a.grownBy b (some p)) (hp : Bd ≤ p) (hB : Bd ≤ a.heap.size) : Below Bd a b :=
  ⟨h.os, h.tape, h.output, h.size, fun i hi => h.block i (by omega) (fun e => by injection e with e; omega)⟩
theorem cur_set {Bd p : Nat} {w : World} (h : Cur Bd w p) {q : Addr} (hq : q.block ≠ p) (hB : Bd ≤ q.block) (u : Value) : Cur Bd (w.setCell q u) p :=
  cur_keep h (row := some q.block) ⟨rfl, rfl, rfl, by simp [World.setCell], fun i hi hne => Below.heap_setCell _ _ _ i (fun e => hne (by rw [e]))⟩ (fun e => hq (by injection e)) (fun j e => by injection e with e; omega)
theorem lit2 (W : World) (x0 x1 : Int) : Lit1 (W.alloc (.cells #[.int .i64 x0, .int .i64 x1] 3)) W.heap.size 2 [x0, x1] := fun k hk => by
  have hb := Blk.new W 3 #[.int .i64 x0, .int .i64 x1]
  rw [hb.cell]
  match k, hk with
  | 0, _ => rfl
  | 1, _ => rfl

/-- A command that was drawn. -/
def DC (Bd p : Nat) (w : World) (e : Ending) (w' : World) : Prop :=
  ∃ k y n : Int, 0 ≤ k ∧ k ≤ 2 ∧ 0 ≤ y ∧ y < 4 ∧ 0 ≤ n ∧ n < 5 ∧ (k = 0 → n = 0) ∧ e = .returned (.agg #[.int .i64 k, .int .i64 y, .int .i64 n]) ∧ Cur Bd w' p ∧ w.grownBy w' (some p)
set_option maxHeartbeats 1600000 in
theorem l7cmd_any (Bd p : Nat) (w : World) (h : Cur Bd w p) (hBw : Bd ≤ w.heap.size) : Calls Tryd.prog 101 #[.pointer (some ⟨p, 0, none⟩)] w (DC Bd p w) := by
  have hpl := (cur_lt h).1
  have kr := Blk.new w 48 #[.int .i64 0, .int .i64 0, .int .i64 0]
  have hc0 := cur_next h ((Below.refl _ _).alloc (Nat.le_refl _) (.cells #[.int .i64 0, .int .i64 0, .int .i64 0] 48))
  have hg0 : w.grownBy (w.alloc (.cells #[.int .i64 0, .int .i64 0, .int .i64 0] 48)) (some p) := g7_of ((Below.refl _ _).alloc (Nat.le_refl _) _) _
  go_enter Tryd.func101, Tryd.ntmps101
  go_wp2_with fail
  refine (below_i Bd p 3 (by omega) (by omega) _ hc0).mono ?_
  rintro e w1 ⟨x, hx, rfl, hc1, hg1⟩
  have kr1 := keepK kr hg1 (by simp; omega)
  have hg1 := g7_two hg0 hg1
  clear hc0 hg0 kr
  go_wp2_with fail
  refine (below_i Bd p 4 (by omega) (by omega) _ hc1).mono ?_
  rintro e w2 ⟨y, hy, rfl, hc2, hg2⟩
  have kr2 := keepK kr1 hg2 (by simp; omega)
  have hg2 := g7_two hg1 hg2
  clear hc1 hg1 kr1
  go_wp2_with fail
  refine (below_i Bd p 5 (by omega) (by omega) _ hc2).mono ?_
  rintro e w3 ⟨n, hn, rfl, hc3, hg3⟩
  have kr3 := keepK kr2 hg3 (by simp; omega)
  have hg3 := g7_two hg2 hg3
  clear hc2 hg2 kr2
  have hz3 := hg3.size
  by_cases h0 : x = 0
  · subst h0
    have kr4 := kr3.alloc (.cells #[.int .i64 (0), .int .i64 (y), .int .i64 (0)] 48)
    have hg4 := g7_up hg3 (.cells #[.int .i64 (0), .int .i64 (y), .int .i64 (0)] 48)
    have hc4 := cur_next hc3 ((Below.refl _ _).alloc (Nat.le_refl _) (.cells #[.int .i64 (0), .int .i64 (y), .int .i64 (0)] 48))
    clear kr3 hg3 hc3
    have rr4_0 := kr4.rule
    have fr4_0 := fun i => kr4.frozen i
    have kr4_1 : Blk ((w3.alloc (.cells #[.int .i64 (0), .int .i64 (y), .int .i64 (0)] 48)).setCell ⟨w.heap.size, 0, none⟩ (.int .i64 (0))) (w.heap.size) 48 #[.int .i64 (0), .int .i64 0, .int .i64 0] := kr4.set_ 0 _
    have rr4_1 := kr4_1.rule
    have fr4_1 := fun i => kr4_1.frozen i
    have kr4_2 : Blk (((w3.alloc (.cells #[.int .i64 (0), .int .i64 (y), .int .i64 (0)] 48)).setCell ⟨w.heap.size, 0, none⟩ (.int .i64 (0))).setCell ⟨w.heap.size, 1, none⟩ (.int .i64 (y))) (w.heap.size) 48 #[.int .i64 (0), .int .i64 (y), .int .i64 0] := kr4_1.set_ 1 _
    have rr4_2 := kr4_2.rule
    have fr4_2 := fun i => kr4_2.frozen i
    have kr4_3 : Blk ((((w3.alloc (.cells #[.int .i64 (0), .int .i64 (y), .int .i64 (0)] 48)).setCell ⟨w.heap.size, 0, none⟩ (.int .i64 (0))).setCell ⟨w.heap.size, 1, none⟩ (.int .i64 (y))).setCell ⟨w.heap.size, 2, none⟩ (.int .i64 (0))) (w.heap.size) 48 #[.int .i64 (0), .int .i64 (y), .int .i64 (0)] := kr4_2.set_ 2 _
    have rr4_3 := kr4_3.rule
    have fr4_3 := fun i => kr4_3.frozen i
    go_wp2
    refine bodyPost_ret (v := .agg #[.int .i64 (0), .int .i64 (y), .int .i64 (0)]) (by simp [results, Tryd.results101, go_sem, rr4_3]) rfl ⟨0, y, 0, by omega, by omega, by omega, by omega, by omega, by omega, fun _ => rfl, rfl, ?_, ?_⟩
    · iterate 3 refine cur_set ?_ (by show w.heap.size ≠ p; omega) hBw _
      exact hc4
    · iterate 3 refine g7_set ?_ (by show w.heap.size ≤ w.heap.size; omega) _
      exact hg4
  · have hf : ((x : Int) == 0) = false := by simp; omega
    have kr4 := kr3.alloc (.cells #[.int .i64 (x), .int .i64 (y), .int .i64 (n)] 48)
    have hg4 := g7_up hg3 (.cells #[.int .i64 (x), .int .i64 (y), .int .i64 (n)] 48)
    have hc4 := cur_next hc3 ((Below.refl _ _).alloc (Nat.le_refl _) (.cells #[.int .i64 (x), .int .i64 (y), .int .i64 (n)] 48))
    clear kr3 hg3 hc3
    have rr4_0 := kr4.rule
    have fr4_0 := fun i => kr4.frozen i
    have kr4_1 : Blk ((w3.alloc (.cells #[.int .i64 (x), .int .i64 (y), .int .i64 (n)] 48)).setCell ⟨w.heap.size, 0, none⟩ (.int .i64 (x))) (w.heap.size) 48 #[.int .i64 (x), .int .i64 0, .int .i64 0] := kr4.set_ 0 _
    have rr4_1 := kr4_1.rule
    have fr4_1 := fun i => kr4_1.frozen i
    have kr4_2 : Blk (((w3.alloc (.cells #[.int .i64 (x), .int .i64 (y), .int .i64 (n)] 48)).setCell ⟨w.heap.size, 0, none⟩ (.int .i64 (x))).setCell ⟨w.heap.size, 1, none⟩ (.int .i64 (y))) (w.heap.size) 48 #[.int .i64 (x), .int .i64 (y), .int .i64 0] := kr4_1.set_ 1 _
    have rr4_2 := kr4_2.rule
    have fr4_2 := fun i => kr4_2.frozen i
    have kr4_3 : Blk ((((w3.alloc (.cells #[.int .i64 (x), .int .i64 (y), .int .i64 (n)] 48)).setCell ⟨w.heap.size, 0, none⟩ (.int .i64 (x))).setCell ⟨w.heap.size, 1, none⟩ (.int .i64 (y))).setCell ⟨w.heap.size, 2, none⟩ (.int .i64 (n))) (w.heap.size) 48 #[.int .i64 (x), .int .i64 (y), .int .i64 (n)] := kr4_2.set_ 2 _
    have rr4_3 := kr4_3.rule
    have fr4_3 := fun i => kr4_3.frozen i
    go_wp2
    refine bodyPost_ret (v := .agg #[.int .i64 (x), .int .i64 (y), .int .i64 (n)]) (by simp [results, Tryd.results101, go_sem, rr4_3]) rfl ⟨x, y, n, by omega, by omega, by omega, by omega, by omega, by omega, fun e => by omega, rfl, ?_, ?_⟩
    · iterate 3 refine cur_set ?_ (by show w.heap.size ≠ p; omega) hBw _
      exact hc4
    · iterate 3 refine g7_set ?_ (by show w.heap.size ≤ w.heap.size; omega) _
      exact hg4

/-- Some command, good or not. -/
def DB (Bd p : Nat) (w : World) (e : Ending) (w' : World) : Prop :=
  ∃ k y n : Int, e = .returned (.agg #[.int .i64 k, .int .i64 y, .int .i64 n]) ∧ Cur Bd w' p ∧ w.grownBy w' (some p)
set_option maxHeartbeats 3200000 in
theorem l7bent_any (Bd p : Nat) (w : World) (h : Cur Bd w p) (hBw : Bd ≤ w.heap.size) : Calls Tryd.prog 58 #[.pointer (some ⟨p, 0, none⟩)] w (DB Bd p w) := by
  have hpl := (cur_lt h).1
  have kr := Blk.new w 48 #[.int .i64 0, .int .i64 0, .int .i64 0]
  have hc0 := cur_next h ((Below.refl _ _).alloc (Nat.le_refl _) (.cells #[.int .i64 0, .int .i64 0, .int .i64 0] 48))
  have hg0 : w.grownBy (w.alloc (.cells #[.int .i64 0, .int .i64 0, .int .i64 0] 48)) (some p) := g7_of ((Below.refl _ _).alloc (Nat.le_refl _) _) _
  go_enter Tryd.func58, Tryd.ntmps58
  go_wp2_with fail
  refine (l7cmd_any Bd p _ hc0 (by simp; omega)).mono ?_
  rintro e w1 ⟨k, y, n, _, _, _, _, _, _, _, rfl, hc1, hg1⟩
  have kr1 := keepK kr hg1 (by simp; omega)
  have hg1 := g7_two hg0 hg1
  have hz1 := hg1.size
  clear hc0 hg0 kr
  have hc2 := cur_next hc1 ((Below.refl _ _).alloc (Nat.le_refl _) (.cells #[.int .i64 (k), .int .i64 (y), .int .i64 (n)] 48))
  have hg2 := g7_up hg1 (.cells #[.int .i64 (k), .int .i64 (y), .int .i64 (n)] 48)
  have kr2 := kr1.alloc (.cells #[.int .i64 (k), .int .i64 (y), .int .i64 (n)] 48)
  have kc2 := Blk.new w1 48 #[.int .i64 (k), .int .i64 (y), .int .i64 (n)]
  have hr1 := kr1.lt
  clear hc1 hg1 kr1
  go_wp2_with fail
  generalize w1.alloc (.cells #[.int .i64 (k), .int .i64 (y), .int .i64 (n)] 48) = w2 at *
  have hz2 : w1.heap.size < w2.heap.size := kc2.lt
  refine (once_any Bd p 6 (by omega) (by omega) _ hc2).mono ?_
  rintro e w3 ⟨q, rfl, hc3, hg3⟩
  have kr3 := keepK kr2 hg3 (by simp; omega)
  have kc3 := keepK kc2 hg3 (by simp; omega)
  have hg3 := g7_two hg2 hg3
  clear hc2 hg2 kr2 kc2
  have hz3 := kc3.lt
  cases q
  · have rr9_0 := kr3.rule
    have fr9_0 := fun i => kr3.frozen i
    have rc9_0 := kc3.rule
    have fc9_0 := fun i => kc3.frozen i
    have kr9_1 : Blk (w3.setCell ⟨w.heap.size, 0, none⟩ (.int .i64 (k))) (w.heap.size) 48 #[.int .i64 (k), .int .i64 0, .int .i64 0] := kr3.set_ 0 _
    have kc9_1 := kc3.far (p := ⟨w.heap.size, 0, none⟩) (by show w1.heap.size ≠ w.heap.size; omega) (.int .i64 (k))
    have rr9_1 := kr9_1.rule
    have fr9_1 := fun i => kr9_1.frozen i
    have rc9_1 := kc9_1.rule
    have fc9_1 := fun i => kc9_1.frozen i
    have kr9_2 : Blk ((w3.setCell ⟨w.heap.size, 0, none⟩ (.int .i64 (k))).setCell ⟨w.heap.size, 1, none⟩ (.int .i64 (y))) (w.heap.size) 48 #[.int .i64 (k), .int .i64 (y), .int .i64 0] := kr9_1.set_ 1 _
    have kc9_2 := kc9_1.far (p := ⟨w.heap.size, 1, none⟩) (by show w1.heap.size ≠ w.heap.size; omega) (.int .i64 (y))
    have rr9_2 := kr9_2.rule
    have fr9_2 := fun i => kr9_2.frozen i
    have rc9_2 := kc9_2.rule
    have fc9_2 := fun i => kc9_2.frozen i
    have kr9_3 : Blk (((w3.setCell ⟨w.heap.size, 0, none⟩ (.int .i64 (k))).setCell ⟨w.heap.size, 1, none⟩ (.int .i64 (y))).setCell ⟨w.heap.size, 2, none⟩ (.int .i64 (n))) (w.heap.size) 48 #[.int .i64 (k), .int .i64 (y), .int .i64 (n)] := kr9_2.set_ 2 _
    have kc9_3 := kc9_2.far (p := ⟨w.heap.size, 2, none⟩) (by show w1.heap.size ≠ w.heap.size; omega) (.int .i64 (n))
    have rr9_3 := kr9_3.rule
    have fr9_3 := fun i => kr9_3.frozen i
    have rc9_3 := kc9_3.rule
    have fc9_3 := fun i => kc9_3.frozen i
    go_wp2
    refine bodyPost_ret (v := .agg #[.int .i64 (k), .int .i64 (y), .int .i64 (n)]) (by simp [results, Tryd.results58, go_sem, rr9_3]) rfl ⟨_, _, _, rfl, ?_, ?_⟩
    · iterate 3 refine cur_set ?_ (by show w.heap.size ≠ p; omega) hBw _
      exact hc3
    · iterate 3 refine g7_set ?_ (by show w.heap.size ≤ w.heap.size; omega) _
      exact hg3
  · go_wp2_with fail
    refine (below_i Bd p 3 (by omega) (by omega) _ hc3).mono ?_
    rintro e w4 ⟨x, hx, rfl, hc4, hg4⟩
    have kr4 := keepK kr3 hg4 (by simp; omega)
    have kc4 := keepK kc3 hg4 (by simp; omega)
    have hg4 := g7_two hg3 hg4
    clear hc3 hg3 kr3 kc3
    have hz4 := kc4.lt
    rcases (show x = 0 ∨ x = 1 ∨ x = 2 by omega) with rfl | rfl | rfl
    · have hc5 := cur_next hc4 ((Below.refl _ _).alloc (Nat.le_refl _) (.cells #[.int .i64 (-1), .int .i64 3, .int .i64 0] 3))
      have hg5 := g7_up hg4 (.cells #[.int .i64 (-1), .int .i64 3, .int .i64 0] 3)
      have kr5 := kr4.alloc (.cells #[.int .i64 (-1), .int .i64 3, .int .i64 0] 3)
      have kc5 := kc4.alloc (.cells #[.int .i64 (-1), .int .i64 3, .int .i64 0] 3)
      have hlit := lit3 w4 (-1) (3) (0)
      have hp5 : w4.heap.size ≠ p := by omega
      clear hc4 hg4 kr4 kc4
      go_wp2_with fail
      generalize w4.alloc (.cells #[.int .i64 (-1), .int .i64 3, .int .i64 0] 3) = w5 at *
      refine (pick_i Bd p w4.heap.size 3 _ [-1, 3, 0] rfl (by omega) (by omega) w5 hc5 hlit hp5).mono ?_
      rintro e w6 ⟨v, rfl, hc6, hg6⟩
      have kr6 := keepK kr5 hg6 (by simp; omega)
      have kc6 := keepK kc5 hg6 (by simp; omega)
      have hg6 := g7_two hg5 hg6
      clear hc5 hg5 kr5 kc5 hlit
      have rc6 := kc6.rule
      have fc6 := fun i => kc6.frozen i
      have kc7 : Blk (w6.setCell ⟨w1.heap.size, 0, none⟩ (.int .i64 v)) w1.heap.size 48 #[.int .i64 (v), .int .i64 (y), .int .i64 (n)] := kc6.set_ 0 _
      have kr7 := kr6.far (p := ⟨w1.heap.size, 0, none⟩) (by show w.heap.size ≠ w1.heap.size; omega) (.int .i64 v)
      have hc7 := cur_set hc6 (q := ⟨w1.heap.size, 0, none⟩) (by show w1.heap.size ≠ p; omega) (by show Bd ≤ w1.heap.size; omega) (.int .i64 v)
      have hg7 := g7_set hg6 (q := ⟨w1.heap.size, 0, none⟩) (by show w.heap.size ≤ w1.heap.size; omega) (.int .i64 v)
      have rr9_0 := kr7.rule
      have fr9_0 := fun i => kr7.frozen i
      have rc9_0 := kc7.rule
      have fc9_0 := fun i => kc7.frozen i
      have kr9_1 : Blk ((w6.setCell ⟨w1.heap.size, 0, none⟩ (.int .i64 v)).setCell ⟨w.heap.size, 0, none⟩ (.int .i64 (v))) (w.heap.size) 48 #[.int .i64 (v), .int .i64 0, .int .i64 0] := kr7.set_ 0 _
      have kc9_1 := kc7.far (p := ⟨w.heap.size, 0, none⟩) (by show w1.heap.size ≠ w.heap.size; omega) (.int .i64 (v))
      have rr9_1 := kr9_1.rule
      have fr9_1 := fun i => kr9_1.frozen i
      have rc9_1 := kc9_1.rule
      have fc9_1 := fun i => kc9_1.frozen i
      have kr9_2 : Blk (((w6.setCell ⟨w1.heap.size, 0, none⟩ (.int .i64 v)).setCell ⟨w.heap.size, 0, none⟩ (.int .i64 (v))).setCell ⟨w.heap.size, 1, none⟩ (.int .i64 (y))) (w.heap.size) 48 #[.int .i64 (v), .int .i64 (y), .int .i64 0] := kr9_1.set_ 1 _
      have kc9_2 := kc9_1.far (p := ⟨w.heap.size, 1, none⟩) (by show w1.heap.size ≠ w.heap.size; omega) (.int .i64 (y))
      have rr9_2 := kr9_2.rule
      have fr9_2 := fun i => kr9_2.frozen i
      have rc9_2 := kc9_2.rule
      have fc9_2 := fun i => kc9_2.frozen i
      have kr9_3 : Blk ((((w6.setCell ⟨w1.heap.size, 0, none⟩ (.int .i64 v)).setCell ⟨w.heap.size, 0, none⟩ (.int .i64 (v))).setCell ⟨w.heap.size, 1, none⟩ (.int .i64 (y))).setCell ⟨w.heap.size, 2, none⟩ (.int .i64 (n))) (w.heap.size) 48 #[.int .i64 (v), .int .i64 (y), .int .i64 (n)] := kr9_2.set_ 2 _
      have kc9_3 := kc9_2.far (p := ⟨w.heap.size, 2, none⟩) (by show w1.heap.size ≠ w.heap.size; omega) (.int .i64 (n))
      have rr9_3 := kr9_3.rule
      have fr9_3 := fun i => kr9_3.frozen i
      have rc9_3 := kc9_3.rule
      have fc9_3 := fun i => kc9_3.frozen i
      go_wp2
      refine bodyPost_ret (v := .agg #[.int .i64 (v), .int .i64 (y), .int .i64 (n)]) (by simp [results, Tryd.results58, go_sem, rr9_3]) rfl ⟨_, _, _, rfl, ?_, ?_⟩
      · iterate 3 refine cur_set ?_ (by show w.heap.size ≠ p; omega) hBw _
        exact hc7
      · iterate 3 refine g7_set ?_ (by show w.heap.size ≤ w.heap.size; omega) _
        exact hg7
    · have hc5 := cur_next hc4 ((Below.refl _ _).alloc (Nat.le_refl _) (.cells #[.int .i64 (-1), .int .i64 4] 3))
      have hg5 := g7_up hg4 (.cells #[.int .i64 (-1), .int .i64 4] 3)
      have kr5 := kr4.alloc (.cells #[.int .i64 (-1), .int .i64 4] 3)
      have kc5 := kc4.alloc (.cells #[.int .i64 (-1), .int .i64 4] 3)
      have hlit := lit2 w4 (-1) (4)
      have hp5 : w4.heap.size ≠ p := by omega
      clear hc4 hg4 kr4 kc4
      go_wp2_with fail
      generalize w4.alloc (.cells #[.int .i64 (-1), .int .i64 4] 3) = w5 at *
      refine (pick_i Bd p w4.heap.size 2 _ [-1, 4] rfl (by omega) (by omega) w5 hc5 hlit hp5).mono ?_
      rintro e w6 ⟨v, rfl, hc6, hg6⟩
      have kr6 := keepK kr5 hg6 (by simp; omega)
      have kc6 := keepK kc5 hg6 (by simp; omega)
      have hg6 := g7_two hg5 hg6
      clear hc5 hg5 kr5 kc5 hlit
      have rc6 := kc6.rule
      have fc6 := fun i => kc6.frozen i
      have kc7 : Blk (w6.setCell ⟨w1.heap.size, 1, none⟩ (.int .i64 v)) w1.heap.size 48 #[.int .i64 (k), .int .i64 (v), .int .i64 (n)] := kc6.set_ 1 _
      have kr7 := kr6.far (p := ⟨w1.heap.size, 1, none⟩) (by show w.heap.size ≠ w1.heap.size; omega) (.int .i64 v)
      have hc7 := cur_set hc6 (q := ⟨w1.heap.size, 1, none⟩) (by show w1.heap.size ≠ p; omega) (by show Bd ≤ w1.heap.size; omega) (.int .i64 v)
      have hg7 := g7_set hg6 (q := ⟨w1.heap.size, 1, none⟩) (by show w.heap.size ≤ w1.heap.size; omega) (.int .i64 v)
      have rr9_0 := kr7.rule
      have fr9_0 := fun i => kr7.frozen i
      have rc9_0 := kc7.rule
      have fc9_0 := fun i => kc7.frozen i
      have kr9_1 : Blk ((w6.setCell ⟨w1.heap.size, 1, none⟩ (.int .i64 v)).setCell ⟨w.heap.size, 0, none⟩ (.int .i64 (k))) (w.heap.size) 48 #[.int .i64 (k), .int .i64 0, .int .i64 0] := kr7.set_ 0 _
      have kc9_1 := kc7.far (p := ⟨w.heap.size, 0, none⟩) (by show w1.heap.size ≠ w.heap.size; omega) (.int .i64 (k))
      have rr9_1 := kr9_1.rule
      have fr9_1 := fun i => kr9_1.frozen i
      have rc9_1 := kc9_1.rule
      have fc9_1 := fun i => kc9_1.frozen i
      have kr9_2 : Blk (((w6.setCell ⟨w1.heap.size, 1, none⟩ (.int .i64 v)).setCell ⟨w.heap.size, 0, none⟩ (.int .i64 (k))).setCell ⟨w.heap.size, 1, none⟩ (.int .i64 (v))) (w.heap.size) 48 #[.int .i64 (k), .int .i64 (v), .int .i64 0] := kr9_1.set_ 1 _
      have kc9_2 := kc9_1.far (p := ⟨w.heap.size, 1, none⟩) (by show w1.heap.size ≠ w.heap.size; omega) (.int .i64 (v))
      have rr9_2 := kr9_2.rule
      have fr9_2 := fun i => kr9_2.frozen i
      have rc9_2 := kc9_2.rule
      have fc9_2 := fun i => kc9_2.frozen i
      have kr9_3 : Blk ((((w6.setCell ⟨w1.heap.size, 1, none⟩ (.int .i64 v)).setCell ⟨w.heap.size, 0, none⟩ (.int .i64 (k))).setCell ⟨w.heap.size, 1, none⟩ (.int .i64 (v))).setCell ⟨w.heap.size, 2, none⟩ (.int .i64 (n))) (w.heap.size) 48 #[.int .i64 (k), .int .i64 (v), .int .i64 (n)] := kr9_2.set_ 2 _
      have kc9_3 := kc9_2.far (p := ⟨w.heap.size, 2, none⟩) (by show w1.heap.size ≠ w.heap.size; omega) (.int .i64 (n))
      have rr9_3 := kr9_3.rule
      have fr9_3 := fun i => kr9_3.frozen i
      have rc9_3 := kc9_3.rule
      have fc9_3 := fun i => kc9_3.frozen i
      go_wp2
      refine bodyPost_ret (v := .agg #[.int .i64 (k), .int .i64 (v), .int .i64 (n)]) (by simp [results, Tryd.results58, go_sem, rr9_3]) rfl ⟨_, _, _, rfl, ?_, ?_⟩
      · iterate 3 refine cur_set ?_ (by show w.heap.size ≠ p; omega) hBw _
        exact hc7
      · iterate 3 refine g7_set ?_ (by show w.heap.size ≤ w.heap.size; omega) _
        exact hg7
    · have hc5 := cur_next hc4 ((Below.refl _ _).alloc (Nat.le_refl _) (.cells #[.int .i64 (-1), .int .i64 5, .int .i64 1] 3))
      have hg5 := g7_up hg4 (.cells #[.int .i64 (-1), .int .i64 5, .int .i64 1] 3)
      have kr5 := kr4.alloc (.cells #[.int .i64 (-1), .int .i64 5, .int .i64 1] 3)
      have kc5 := kc4.alloc (.cells #[.int .i64 (-1), .int .i64 5, .int .i64 1] 3)
      have hlit := lit3 w4 (-1) (5) (1)
      have hp5 : w4.heap.size ≠ p := by omega
      clear hc4 hg4 kr4 kc4
      go_wp2_with fail
      generalize w4.alloc (.cells #[.int .i64 (-1), .int .i64 5, .int .i64 1] 3) = w5 at *
      refine (pick_i Bd p w4.heap.size 3 _ [-1, 5, 1] rfl (by omega) (by omega) w5 hc5 hlit hp5).mono ?_
      rintro e w6 ⟨v, rfl, hc6, hg6⟩
      have kr6 := keepK kr5 hg6 (by simp; omega)
      have kc6 := keepK kc5 hg6 (by simp; omega)
      have hg6 := g7_two hg5 hg6
      clear hc5 hg5 kr5 kc5 hlit
      have rc6 := kc6.rule
      have fc6 := fun i => kc6.frozen i
      have kc7 : Blk (w6.setCell ⟨w1.heap.size, 2, none⟩ (.int .i64 v)) w1.heap.size 48 #[.int .i64 (k), .int .i64 (y), .int .i64 (v)] := kc6.set_ 2 _
      have kr7 := kr6.far (p := ⟨w1.heap.size, 2, none⟩) (by show w.heap.size ≠ w1.heap.size; omega) (.int .i64 v)
      have hc7 := cur_set hc6 (q := ⟨w1.heap.size, 2, none⟩) (by show w1.heap.size ≠ p; omega) (by show Bd ≤ w1.heap.size; omega) (.int .i64 v)
      have hg7 := g7_set hg6 (q := ⟨w1.heap.size, 2, none⟩) (by show w.heap.size ≤ w1.heap.size; omega) (.int .i64 v)
      have rr9_0 := kr7.rule
      have fr9_0 := fun i => kr7.frozen i
      have rc9_0 := kc7.rule
      have fc9_0 := fun i => kc7.frozen i
      have kr9_1 : Blk ((w6.setCell ⟨w1.heap.size, 2, none⟩ (.int .i64 v)).setCell ⟨w.heap.size, 0, none⟩ (.int .i64 (k))) (w.heap.size) 48 #[.int .i64 (k), .int .i64 0, .int .i64 0] := kr7.set_ 0 _
      have kc9_1 := kc7.far (p := ⟨w.heap.size, 0, none⟩) (by show w1.heap.size ≠ w.heap.size; omega) (.int .i64 (k))
      have rr9_1 := kr9_1.rule
      have fr9_1 := fun i => kr9_1.frozen i
      have rc9_1 := kc9_1.rule
      have fc9_1 := fun i => kc9_1.frozen i
      have kr9_2 : Blk (((w6.setCell ⟨w1.heap.size, 2, none⟩ (.int .i64 v)).setCell ⟨w.heap.size, 0, none⟩ (.int .i64 (k))).setCell ⟨w.heap.size, 1, none⟩ (.int .i64 (y))) (w.heap.size) 48 #[.int .i64 (k), .int .i64 (y), .int .i64 0] := kr9_1.set_ 1 _
      have kc9_2 := kc9_1.far (p := ⟨w.heap.size, 1, none⟩) (by show w1.heap.size ≠ w.heap.size; omega) (.int .i64 (y))
      have rr9_2 := kr9_2.rule
      have fr9_2 := fun i => kr9_2.frozen i
      have rc9_2 := kc9_2.rule
      have fc9_2 := fun i => kc9_2.frozen i
      have kr9_3 : Blk ((((w6.setCell ⟨w1.heap.size, 2, none⟩ (.int .i64 v)).setCell ⟨w.heap.size, 0, none⟩ (.int .i64 (k))).setCell ⟨w.heap.size, 1, none⟩ (.int .i64 (y))).setCell ⟨w.heap.size, 2, none⟩ (.int .i64 (v))) (w.heap.size) 48 #[.int .i64 (k), .int .i64 (y), .int .i64 (v)] := kr9_2.set_ 2 _
      have kc9_3 := kc9_2.far (p := ⟨w.heap.size, 2, none⟩) (by show w1.heap.size ≠ w.heap.size; omega) (.int .i64 (v))
      have rr9_3 := kr9_3.rule
      have fr9_3 := fun i => kr9_3.frozen i
      have rc9_3 := kc9_3.rule
      have fc9_3 := fun i => kc9_3.frozen i
      go_wp2
      refine bodyPost_ret (v := .agg #[.int .i64 (k), .int .i64 (y), .int .i64 (v)]) (by simp [results, Tryd.results58, go_sem, rr9_3]) rfl ⟨_, _, _, rfl, ?_, ?_⟩
      · iterate 3 refine cur_set ?_ (by show w.heap.size ≠ p; omega) hBw _
        exact hc7
      · iterate 3 refine g7_set ?_ (by show w.heap.size ≤ w.heap.size; omega) _
        exact hg7

set_option maxHeartbeats 1600000 in
theorem stores_any (w : World) : Calls Tryd.prog 21 #[] w fun e w' => e = .returned (.bool true) ∧ Below w.heap.size w w' := by
  have e1 : doU [0, 0, 0, 0] 0 1 1 3 = [0, 3, 0, 0] := by decide
  have e2 : doM [0, 0, 0, 0] 0 1 1 3 = 1 := by decide
  have e3 : doR [0, 0, 0, 0] 0 1 1 3 = 0 := by decide
  have e4 : doR [0, 3, 0, 0] 1 0 1 0 = 3 := by decide
  have H1 : Hid (∀ (A : Option Addr) (c : Nat) (W : World), RdI W W.heap.size A [0, 0, 0, 0] → Calls Tryd.prog 20 #[.agg #[.slice A 4 c, .int .i64 0], .agg #[.int .i64 1, .int .i64 1, .int .i64 3]] W (SG [0, 3, 0, 0] 1 (.int .i64 0) W)) := fun A c W h => by
    have := implStoreDo_any A c [0, 0, 0, 0] 0 1 1 3 W h (by simp)
    rwa [e1, e2, e3] at this
  have H2 : Hid (∀ (A : Option Addr) (c : Nat) (W : World), RdI W W.heap.size A [0, 3, 0, 0] → Calls Tryd.prog 20 #[.agg #[.slice A 4 c, .int .i64 1], .agg #[.int .i64 0, .int .i64 1, .int .i64 0]] W fun e w' => ∃ v, e = .returned (.tuple #[v, .int .i64 3]) ∧ (∃ B d u m, v = .agg #[.slice B u d, .int .i64 m]) ∧ Below W.heap.size W w') := fun A c W h => by
    have := implStoreDo_any A c [0, 3, 0, 0] 1 0 1 0 W h (by simp)
    rw [e4] at this
    exact this.mono fun e w' ⟨B, d, he, _, hb⟩ => ⟨_, he, ⟨B, d, _, _, rfl⟩, hb⟩
  clear e1 e2 e3 e4
  go_enter Tryd.func21, Tryd.ntmps21
  go_wp2_with fail
  refine (implNew_any w).mono ?_
  rintro e w1 ⟨A1, d1, rfl, _, ho1, hb1⟩
  go_wp2_with fail
  refine (H1.out A1 d1 w1 ho1.rd).mono ?_
  rintro e w2 ⟨A2, d2, rfl, ho2, hb2⟩
  have hB2 := on_ hb1 hb2
  have hB3 := up_ hB2 (.cells #[.slice A2 4 d2, .int .i64 1] 46)
  have hr3 := ho2.rd.up (.cells #[.slice A2 4 d2, .int .i64 1] 46)
  clear hb1 hb2 ho1 hB2 ho2
  go_wp2_with fail
  refine (H2.out A2 d2 _ hr3).mono ?_
  rintro e w4 ⟨v, rfl, ⟨B4, d4, u4, m4, rfl⟩, hb4⟩
  have hB4 := on_ hB3 hb4
  go_wp2
  go_ret
  exact ⟨rfl, up_ hB4 _⟩
end Go.Proofs.YtbogagddjkghhaaDoor.V
