/-
  execute of the program: contract, and that it touches nothing but the store. No statement is proved here.
-/
import Derived.Test.YtfebeafonifpdaaStX
set_option linter.unusedVariables false
set_option maxRecDepth 100000
namespace Go.Proofs.Ytfebeafonifpdaa.V
open Go.RowKit Go.Proofs.Ytfebeafonifpdaa.B
def XG2 (Bd p g d : Nat) (m : Int) (xs us : List Int) (x : Int) (w : World) (e : Ending) (w' : World) : Prop :=
  e = .returned (.int .i64 x) ∧ Blk w' p 36 #[.slice (some ⟨g, 0, none⟩) 4 d, .int .i64 (m + 1)] ∧ OI w' 3 Bd (some ⟨g, 0, none⟩) us ∧ Below Bd w w' ∧ w.heap.size ≤ w'.heap.size ∧ (∀ j, j < w.heap.size → j ≠ p → j ≠ g → w'.heap[j]? = w.heap[j]?)
set_option maxHeartbeats 1600000 in
theorem execs0 (Bd p g d : Nat) (m n : Int) (y : Nat) (xs : List Int) (w : World) (hl : xs.length = 4) (hy : y < 4) (h0 : 0 ≤ n) (h1 : n ≤ 4) (hm0 : 0 ≤ m) (hm1 : m ≤ 999) (hx : 0 ≤ xs.getD y 0 ∧ xs.getD y 0 ≤ 1000)
    (hp : Blk w p 36 #[.slice (some ⟨g, 0, none⟩) 4 d, .int .i64 m]) (ho : OI w 3 Bd (some ⟨g, 0, none⟩) xs) (hne : p ≠ g) (hB : Bd ≤ p) :
    Calls Try.prog 69 #[.pointer (some ⟨p, 0, none⟩), .agg #[.int .i64 0, .int .i64 (y : Int), .int .i64 n]] w (XG2 Bd p g d m xs (doX xs 0 y n) (xs.getD y 0) w) := by
  obtain ⟨g', cs, e, hgb, hk, hpi⟩ := ho.row7 (by omega)
  injection e with e
  injection e with e
  subst e
  obtain ⟨x, hxe⟩ : ∃ x, xs.getD y 0 = x := ⟨_, rfl⟩
  have hc := hpi.2 y (by omega)
  rw [hxe] at hc hx ⊢
  obtain ⟨hx0, hx1⟩ := hx
  have HX := Lib.hid hxe; have HL := Lib.hid hl; clear hxe hl hpi
  have hp1 := hp.alloc (.cells #[.int .i64 0, .int .i64 (y : Int), .int .i64 n] 24)
  have hk1 := hk.alloc (.cells #[.int .i64 0, .int .i64 (y : Int), .int .i64 n] 24)
  have ho1 := Lib.hid (ho.up (.cells #[.int .i64 0, .int .i64 (y : Int), .int .i64 n] 24))
  have kc1 := Blk.new w 24 #[.int .i64 0, .int .i64 (y : Int), .int .i64 n]
  have hW1 : Below w.heap.size w (w.alloc (.cells #[.int .i64 0, .int .i64 (y : Int), .int .i64 n] 24)) := (Below.refl _ _).alloc (Nat.le_refl _) _
  have hBw : Bd ≤ w.heap.size := by have := hp.lt; omega
  have hB1 : Below Bd w (w.alloc (.cells #[.int .i64 0, .int .i64 (y : Int), .int .i64 n] 24)) := (Below.refl _ _).alloc hBw _
  have hz1 : Bd ≤ (w.alloc (.cells #[.int .i64 0, .int .i64 (y : Int), .int .i64 n] 24)).heap.size := by simp; omega
  have hpl := hp.lt
  have hgl := hk.lt
  have g0 : (0 : Int) ≤ (y : Int) := by omega
  have g1 : (y : Int) < 4 := by omega
  clear hp hk ho
  go_enter Try.func69, Try.ntmps69
  go_wp2
  generalize w.alloc (.cells #[.int .i64 0, .int .i64 (y : Int), .int .i64 n] 24) = w1 at *
  have C0 := lat_blk kc1
  have C1 := lat_blk hp1
  have C2 := fun x : Lat w1 => x.cell ((hk1.cell y).trans hc)
  refine wp_region_lat (by kernel_rfl) (by kernel_rfl) ?_
  repeat (go_big_quiet_step (fail))
  refine wpQuiet_nil ?_
  rintro w3 ⟨⟨_, hb3⟩, rfl⟩
  clear C0 C1 C2
  have hp3 := hp1.on hb3
  have hk3 := hk1.on hb3
  have ho3 := Lib.hid (ho1.out.on hb3)
  have kc3 := kc1.on hb3
  have hB3 : Below Bd w w3 := hB1.trans (hb3.mono hz1)
  have hw3 : w.heap.size < w3.heap.size := kc3.lt
  have HBL := Lib.hid (fun (j : Nat) (hj : j < w.heap.size) => (hb3.block j (by have := hW1.size; omega)).trans (hW1.block j hj))
  have HSZ := Lib.hid (Nat.le_trans hW1.size hb3.size)
  clear hp1 hk1 ho1 kc1 hB1 hz1 hb3 hW1
  have rp := hp3.rule
  have fp := fun i => hp3.frozen i
  have rc := kc3.rule
  go_wp2
  go_ret
  refine ⟨rfl, hp3.set_ 1 _, ?_, Below.setCell hB3 hB _, by simpa [World.setCell] using HSZ.out, fun j hj hjp hjg => (Below.heap_setCell _ _ _ j hjp).trans (HBL.out j hj)⟩
  have e : doX xs 0 y n = xs := by unfold doX doN; rw [if_neg (by decide), if_neg (by decide), set_same]
  rw [e]
  rcases ho3.out with ⟨h, _⟩ | ⟨g2, cur, e2, hb2, hk2, hq2⟩
  · cases h
  · refine .inr ⟨g2, cur, e2, hb2, hk2.far ?_ _, hq2⟩
    injection e2 with e2
    injection e2 with e2
    subst e2
    exact fun h => hne h.symm
set_option maxHeartbeats 1600000 in
theorem execs1 (Bd p g d : Nat) (m n : Int) (y : Nat) (xs : List Int) (w : World) (hl : xs.length = 4) (hy : y < 4) (h0 : 0 ≤ n) (h1 : n ≤ 4) (hm0 : 0 ≤ m) (hm1 : m ≤ 999) (hx : 0 ≤ xs.getD y 0 ∧ xs.getD y 0 ≤ 1000)
    (hp : Blk w p 36 #[.slice (some ⟨g, 0, none⟩) 4 d, .int .i64 m]) (ho : OI w 3 Bd (some ⟨g, 0, none⟩) xs) (hne : p ≠ g) (hB : Bd ≤ p) :
    Calls Try.prog 69 #[.pointer (some ⟨p, 0, none⟩), .agg #[.int .i64 1, .int .i64 (y : Int), .int .i64 n]] w (XG2 Bd p g d m xs (doX xs 1 y n) (xs.getD y 0) w) := by
  obtain ⟨g', cs, e, hgb, hk, hpi⟩ := ho.row7 (by omega)
  injection e with e
  injection e with e
  subst e
  obtain ⟨x, hxe⟩ : ∃ x, xs.getD y 0 = x := ⟨_, rfl⟩
  have hc := hpi.2 y (by omega)
  rw [hxe] at hc hx ⊢
  obtain ⟨hx0, hx1⟩ := hx
  have HX := Lib.hid hxe; have HL := Lib.hid hl; clear hxe hl hpi
  have hp1 := hp.alloc (.cells #[.int .i64 1, .int .i64 (y : Int), .int .i64 n] 24)
  have hk1 := hk.alloc (.cells #[.int .i64 1, .int .i64 (y : Int), .int .i64 n] 24)
  have ho1 := Lib.hid (ho.up (.cells #[.int .i64 1, .int .i64 (y : Int), .int .i64 n] 24))
  have kc1 := Blk.new w 24 #[.int .i64 1, .int .i64 (y : Int), .int .i64 n]
  have hW1 : Below w.heap.size w (w.alloc (.cells #[.int .i64 1, .int .i64 (y : Int), .int .i64 n] 24)) := (Below.refl _ _).alloc (Nat.le_refl _) _
  have hBw : Bd ≤ w.heap.size := by have := hp.lt; omega
  have hB1 : Below Bd w (w.alloc (.cells #[.int .i64 1, .int .i64 (y : Int), .int .i64 n] 24)) := (Below.refl _ _).alloc hBw _
  have hz1 : Bd ≤ (w.alloc (.cells #[.int .i64 1, .int .i64 (y : Int), .int .i64 n] 24)).heap.size := by simp; omega
  have hpl := hp.lt
  have hgl := hk.lt
  have g0 : (0 : Int) ≤ (y : Int) := by omega
  have g1 : (y : Int) < 4 := by omega
  clear hp hk ho
  go_enter Try.func69, Try.ntmps69
  go_wp2
  generalize w.alloc (.cells #[.int .i64 1, .int .i64 (y : Int), .int .i64 n] 24) = w1 at *
  have C0 := lat_blk kc1
  have C1 := lat_blk hp1
  have C2 := fun x : Lat w1 => x.cell ((hk1.cell y).trans hc)
  refine wp_region_lat (by kernel_rfl) (by kernel_rfl) ?_
  repeat (go_big_quiet_step (fail))
  refine wpQuiet_nil ?_
  rintro w3 ⟨⟨_, hb3⟩, rfl⟩
  clear C0 C1 C2
  have hp3 := hp1.on hb3
  have hk3 := hk1.on hb3
  have ho3 := Lib.hid (ho1.out.on hb3)
  have kc3 := kc1.on hb3
  have hB3 : Below Bd w w3 := hB1.trans (hb3.mono hz1)
  have hw3 : w.heap.size < w3.heap.size := kc3.lt
  have HBL := Lib.hid (fun (j : Nat) (hj : j < w.heap.size) => (hb3.block j (by have := hW1.size; omega)).trans (hW1.block j hj))
  have HSZ := Lib.hid (Nat.le_trans hW1.size hb3.size)
  clear hp1 hk1 ho1 kc1 hB1 hz1 hb3 hW1
  have rp := hp3.rule
  have fp := fun i => hp3.frozen i
  have rc := kc3.rule
  go_wp2
  have hp4 : Blk w3.drew p _ _ := hp3.dr
  have hk4 : Blk w3.drew g _ _ := hk3.dr
  have ho4 : Hid (OI w3.drew 3 Bd (some ⟨g, 0, none⟩) xs) := Lib.hid (ho3.out)
  have kc4 : Blk w3.drew _ _ _ := kc3.dr
  have hB4 : Below Bd w w3.drew := hB3.drew
  have HBL4 : Hid (∀ (j : Nat), j < w.heap.size → w3.drew.heap[j]? = w.heap[j]?) := Lib.hid (fun j hj => HBL.out j hj)
  have HSZ4 : Hid (w.heap.size ≤ w3.drew.heap.size) := Lib.hid HSZ.out
  clear HBL HSZ
  have ry3 := (hk3.cell y).trans hc
  clear hp3 hk3 ho3 kc3 hB3
  go_still_tail 8, (by kernel_rfl)
  change wpList _ _ _ _ _ w3.drew
  clear rp fp rc ry3
  generalize w3.drew = w4 at *
  have rp := hp4.rule
  have rc := kc4.rule
  have ry := (hk4.cell y).trans hc
  have fy := hk4.frozen y
  have hp5 := hp4.far (p := ⟨g, y, none⟩) hne (.int .i64 (n))
  have rp5 := hp5.rule
  have fp5 := fun i => hp5.frozen i
  have ho5 := Lib.hid (OI.set7 (v := n) ho4.out (by rw [HL.out]; exact hy))
  go_wp2
  go_ret
  refine ⟨rfl, hp5.set_ 1 _, ?_, Below.setCell (Below.setCell hB4 hgb _) hB _, by simpa [World.setCell] using HSZ4.out, fun j hj hjp hjg => (Below.heap_setCell _ _ _ j hjp).trans ((Below.heap_setCell _ _ _ j hjg).trans (HBL4.out j hj))⟩
  have e : doX xs 1 y n = xs.set y (n) := by unfold doX doN; rw [if_pos rfl]
  rw [e]
  rcases ho5.out with ⟨h, _⟩ | ⟨g2, cur, e2, hb2, hk2, hq2⟩
  · cases h
  · refine .inr ⟨g2, cur, e2, hb2, hk2.far ?_ _, hq2⟩
    injection e2 with e2
    injection e2 with e2
    subst e2
    exact fun h => hne h.symm
set_option maxHeartbeats 1600000 in
theorem execs2 (Bd p g d : Nat) (m n : Int) (y : Nat) (xs : List Int) (w : World) (hl : xs.length = 4) (hy : y < 4) (h0 : 0 ≤ n) (h1 : n ≤ 4) (hm0 : 0 ≤ m) (hm1 : m ≤ 999) (hx : 0 ≤ xs.getD y 0 ∧ xs.getD y 0 ≤ 1000)
    (hp : Blk w p 36 #[.slice (some ⟨g, 0, none⟩) 4 d, .int .i64 m]) (ho : OI w 3 Bd (some ⟨g, 0, none⟩) xs) (hne : p ≠ g) (hB : Bd ≤ p) :
    Calls Try.prog 69 #[.pointer (some ⟨p, 0, none⟩), .agg #[.int .i64 2, .int .i64 (y : Int), .int .i64 n]] w (XG2 Bd p g d m xs (doX xs 2 y n) (xs.getD y 0) w) := by
  obtain ⟨g', cs, e, hgb, hk, hpi⟩ := ho.row7 (by omega)
  injection e with e
  injection e with e
  subst e
  obtain ⟨x, hxe⟩ : ∃ x, xs.getD y 0 = x := ⟨_, rfl⟩
  have hc := hpi.2 y (by omega)
  rw [hxe] at hc hx ⊢
  obtain ⟨hx0, hx1⟩ := hx
  have HX := Lib.hid hxe; have HL := Lib.hid hl; clear hxe hl hpi
  have hp1 := hp.alloc (.cells #[.int .i64 2, .int .i64 (y : Int), .int .i64 n] 24)
  have hk1 := hk.alloc (.cells #[.int .i64 2, .int .i64 (y : Int), .int .i64 n] 24)
  have ho1 := Lib.hid (ho.up (.cells #[.int .i64 2, .int .i64 (y : Int), .int .i64 n] 24))
  have kc1 := Blk.new w 24 #[.int .i64 2, .int .i64 (y : Int), .int .i64 n]
  have hW1 : Below w.heap.size w (w.alloc (.cells #[.int .i64 2, .int .i64 (y : Int), .int .i64 n] 24)) := (Below.refl _ _).alloc (Nat.le_refl _) _
  have hBw : Bd ≤ w.heap.size := by have := hp.lt; omega
  have hB1 : Below Bd w (w.alloc (.cells #[.int .i64 2, .int .i64 (y : Int), .int .i64 n] 24)) := (Below.refl _ _).alloc hBw _
  have hz1 : Bd ≤ (w.alloc (.cells #[.int .i64 2, .int .i64 (y : Int), .int .i64 n] 24)).heap.size := by simp; omega
  have hpl := hp.lt
  have hgl := hk.lt
  have g0 : (0 : Int) ≤ (y : Int) := by omega
  have g1 : (y : Int) < 4 := by omega
  clear hp hk ho
  go_enter Try.func69, Try.ntmps69
  go_wp2
  generalize w.alloc (.cells #[.int .i64 2, .int .i64 (y : Int), .int .i64 n] 24) = w1 at *
  have C0 := lat_blk kc1
  have C1 := lat_blk hp1
  have C2 := fun x : Lat w1 => x.cell ((hk1.cell y).trans hc)
  refine wp_region_lat (by kernel_rfl) (by kernel_rfl) ?_
  repeat (go_big_quiet_step (fail))
  refine wpQuiet_nil ?_
  rintro w3 ⟨⟨_, hb3⟩, rfl⟩
  clear C0 C1 C2
  have hp3 := hp1.on hb3
  have hk3 := hk1.on hb3
  have ho3 := Lib.hid (ho1.out.on hb3)
  have kc3 := kc1.on hb3
  have hB3 : Below Bd w w3 := hB1.trans (hb3.mono hz1)
  have hw3 : w.heap.size < w3.heap.size := kc3.lt
  have HBL := Lib.hid (fun (j : Nat) (hj : j < w.heap.size) => (hb3.block j (by have := hW1.size; omega)).trans (hW1.block j hj))
  have HSZ := Lib.hid (Nat.le_trans hW1.size hb3.size)
  clear hp1 hk1 ho1 kc1 hB1 hz1 hb3 hW1
  have rp := hp3.rule
  have fp := fun i => hp3.frozen i
  have rc := kc3.rule
  go_wp2_with (go_at_call 95; refine (grown_any x n hx0 hx1 h0 h1 _).mono ?_; rintro e w9 ⟨rfl, h9⟩; obtain rfl := h9.symm)
  have hp4 : Blk w3.drew p _ _ := hp3.dr
  have hk4 : Blk w3.drew g _ _ := hk3.dr
  have ho4 : Hid (OI w3.drew 3 Bd (some ⟨g, 0, none⟩) xs) := Lib.hid (ho3.out)
  have kc4 : Blk w3.drew _ _ _ := kc3.dr
  have hB4 : Below Bd w w3.drew := hB3.drew
  have HBL4 : Hid (∀ (j : Nat), j < w.heap.size → w3.drew.heap[j]? = w.heap[j]?) := Lib.hid (fun j hj => HBL.out j hj)
  have HSZ4 : Hid (w.heap.size ≤ w3.drew.heap.size) := Lib.hid HSZ.out
  clear HBL HSZ
  have ry3 := (hk3.cell y).trans hc
  clear hp3 hk3 ho3 kc3 hB3
  go_still_tail 8, (by kernel_rfl)
  change wpList _ _ _ _ _ w3.drew
  clear rp fp rc ry3
  generalize w3.drew = w4 at *
  have rp := hp4.rule
  have rc := kc4.rule
  have ry := (hk4.cell y).trans hc
  have fy := hk4.frozen y
  have hp5 := hp4.far (p := ⟨g, y, none⟩) hne (.int .i64 (growN x n))
  have rp5 := hp5.rule
  have fp5 := fun i => hp5.frozen i
  have ho5 := Lib.hid (OI.set7 (v := growN x n) ho4.out (by rw [HL.out]; exact hy))
  go_wp2
  go_ret
  refine ⟨rfl, hp5.set_ 1 _, ?_, Below.setCell (Below.setCell hB4 hgb _) hB _, by simpa [World.setCell] using HSZ4.out, fun j hj hjp hjg => (Below.heap_setCell _ _ _ j hjp).trans ((Below.heap_setCell _ _ _ j hjg).trans (HBL4.out j hj))⟩
  have e : doX xs 2 y n = xs.set y (growN x n) := by unfold doX doN; rw [if_neg (by decide), if_pos rfl, HX.out]
  rw [e]
  rcases ho5.out with ⟨h, _⟩ | ⟨g2, cur, e2, hb2, hk2, hq2⟩
  · cases h
  · refine .inr ⟨g2, cur, e2, hb2, hk2.far ?_ _, hq2⟩
    injection e2 with e2
    injection e2 with e2
    subst e2
    exact fun h => hne h.symm
theorem execs_any (Bd p g d : Nat) (m k n : Int) (y : Nat) (xs : List Int) (w : World) (hl : xs.length = 4) (hy : y < 4) (hk0 : 0 ≤ k) (hk1 : k ≤ 2) (h0 : 0 ≤ n) (h1 : n ≤ 4) (hm0 : 0 ≤ m) (hm1 : m ≤ 999) (hx : 0 ≤ xs.getD y 0 ∧ xs.getD y 0 ≤ 1000)
    (hp : Blk w p 36 #[.slice (some ⟨g, 0, none⟩) 4 d, .int .i64 m]) (ho : OI w 3 Bd (some ⟨g, 0, none⟩) xs) (hne : p ≠ g) (hB : Bd ≤ p) :
    Calls Try.prog 69 #[.pointer (some ⟨p, 0, none⟩), .agg #[.int .i64 k, .int .i64 (y : Int), .int .i64 n]] w (XG2 Bd p g d m xs (doX xs k y n) (xs.getD y 0) w) := by
  rcases (show k = 0 ∨ k = 1 ∨ k = 2 by omega) with rfl | rfl | rfl
  · exact execs0 Bd p g d m n y xs w hl hy h0 h1 hm0 hm1 hx hp ho hne hB
  · exact execs1 Bd p g d m n y xs w hl hy h0 h1 hm0 hm1 hx hp ho hne hB
  · exact execs2 Bd p g d m n y xs w hl hy h0 h1 hm0 hm1 hx hp ho hne hB
end Go.Proofs.Ytfebeafonifpdaa.V
