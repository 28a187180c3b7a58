/-
  The model's words of a command: contract. No statement is proved here.
-/
import Derived.Test.YtfebeafonifpdaaDoorCmdTx
import Derived.Deep.RegionLaw
set_option linter.unusedVariables false
set_option maxRecDepth 100000
namespace Go.Proofs.YtfebeafonifpdaaDoor.V
open Go.RowKit Go.Proofs.YtfebeafonifpdaaDoor.B
def cmdW (k : Int) : List Int := if k = 0 then [103, 101, 116] else if k = 1 then [112, 117, 116] else [97, 100, 100]
def cmdT (k y n : Int) : List Int := cmdW k ++ [32, 48 + y] ++ (if k = 0 then [] else [32, 48 + n])
/-- A row of bytes of the call's own. -/
def TX (bs : List Int) (w : World) (e : Ending) (w' : World) : Prop :=
  ∃ g cap, e = .returned (.slice (some ⟨g, 0, none⟩) bs.length cap) ∧ w.heap.size ≤ g ∧ CRow w' g cap bs.length (u8s bs) ∧ Below w.heap.size w w'
theorem read1 (W : World) (u : Value) (g : Nat) (hg : W.heap.size = g) : Reads (W.alloc (.cells #[u] 5)) (g + 1) 1 (some ⟨g, 0, none⟩) 1 [u] := by
  subst hg
  have hb := Blk.new W 5 #[u]
  refine ⟨rfl, fun _ => ⟨_, rfl, Nat.lt_succ_self _, fun j v hv => ?_⟩⟩
  match j, hv with
  | 0, hv =>
    have hadd : (⟨W.heap.size, 0, none⟩ : Addr).add 0 = ⟨W.heap.size, 0, none⟩ := rfl
    rw [hadd, hb.cell]
    exact hv
theorem crow_dr {w : World} {g cap n : Nat} {cs : List Value} (h : CRow w g cap n cs) : CRow w.drew g cap n cs := h.on (Below.refl _ _).drew
theorem readK {W w8 : World} {a g : Nat} {u : Value} (hc : W.cell? ⟨a, 0, none⟩ = some u) (hl : a < W.heap.size) (hg : W.grownBy w8 (some g)) (hne : a ≠ g) : Reads w8 (a + 1) 1 (some ⟨a, 0, none⟩) 1 [u] := by
  refine ⟨rfl, fun _ => ⟨_, rfl, Nat.lt_succ_self _, fun j v hv => ?_⟩⟩
  match j, hv with
  | 0, hv =>
    have hadd : (⟨a, 0, none⟩ : Addr).add 0 = ⟨a, 0, none⟩ := rfl
    rw [hadd, World.cell?_of_block (a := ⟨a, 0, none⟩) (hg.block a hl (fun e => by injection e with e; exact hne e)), hc]
    exact hv
theorem growB {w w' w0 : World} {g : Nat} (h : w.grownBy w' (some g)) (hB : Below w0.heap.size w0 w) (hg : w0.heap.size ≤ g) : Below w0.heap.size w0 w' :=
  hB.trans ⟨h.os, h.tape, h.output, h.size, fun i hi => h.block i (by have := hB.size; omega) (fun e => by injection e with e; omega)⟩
set_option maxHeartbeats 3200000 in
theorem specCT0 (y : Nat) (hy : y < 4) (w : World) : Calls Tryd.prog 14 #[.agg #[.int .i64 0, .int .i64 (y : Int), .int .i64 (0 : Int)]] w (TX (cmdT 0 y (0 : Int)) w) := by
  have hq : cmdB 0 y (0 : Int) = true := by unfold cmdB; exact decide_eq_true (by omega)
  have HQ := Lib.hid hq; clear hq
  have kc := fun (w : World) => conv_text w ⟨#[103, 101, 116]⟩
  have ka := Blk.new w 27 #[.int .i64 0, .int .i64 (y : Int), .int .i64 (0 : Int)]
  have hB := up_ (Below.refl w.heap.size w) (.cells #[.int .i64 0, .int .i64 (y : Int), .int .i64 (0 : Int)] 27)
  go_enter Tryd.func14, Tryd.ntmps14
  go_wp2_with fail
  refine (specCmdOk_is true 0 y (0 : Int) HQ.out _).mono ?_
  rintro e w1 ⟨rfl, hb1⟩
  have ka1 := ka.on hb1
  have hB1 := on_ hB hb1
  clear ka hB hb1
  have ra1 := ka1.rule
  have ka2 := ka1.alloc (.cells #[.string ⟨#[103, 101, 116]⟩, .string ⟨#[112, 117, 116]⟩, .string ⟨#[97, 100, 100]⟩] 9)
  have ra2 := ka2.rule
  have hB2 := up_ hB1 (.cells #[.string ⟨#[103, 101, 116]⟩, .string ⟨#[112, 117, 116]⟩, .string ⟨#[97, 100, 100]⟩] 9)
  obtain ⟨i0, hi0, hz0, hz1', hz2⟩ := info_parts infoB8
  have hc0 := CRow.of_text (w1.alloc (.cells #[.string ⟨#[103, 101, 116]⟩, .string ⟨#[112, 117, 116]⟩, .string ⟨#[97, 100, 100]⟩] 9)) ⟨#[103, 101, 116]⟩ 5 (by decide)
  have hbc : Below (w1.alloc (.cells #[.string ⟨#[103, 101, 116]⟩, .string ⟨#[112, 117, 116]⟩, .string ⟨#[97, 100, 100]⟩] 9)).heap.size (w1.alloc (.cells #[.string ⟨#[103, 101, 116]⟩, .string ⟨#[112, 117, 116]⟩, .string ⟨#[97, 100, 100]⟩] 9)) ((w1.alloc (.cells #[.string ⟨#[103, 101, 116]⟩, .string ⟨#[112, 117, 116]⟩, .string ⟨#[97, 100, 100]⟩] 9)).drew.alloc (.cells (bytesRow ⟨#[103, 101, 116]⟩ (grownCap (w1.alloc (.cells #[.string ⟨#[103, 101, 116]⟩, .string ⟨#[112, 117, 116]⟩, .string ⟨#[97, 100, 100]⟩] 9)) 3 0 5)) 5 ((bytesRow ⟨#[103, 101, 116]⟩ (grownCap (w1.alloc (.cells #[.string ⟨#[103, 101, 116]⟩, .string ⟨#[112, 117, 116]⟩, .string ⟨#[97, 100, 100]⟩] 9)) 3 0 5)).size, (bytesRow ⟨#[103, 101, 116]⟩ (grownCap (w1.alloc (.cells #[.string ⟨#[103, 101, 116]⟩, .string ⟨#[112, 117, 116]⟩, .string ⟨#[97, 100, 100]⟩] 9)) 3 0 5)).size + 1))) := (show Below (w1.alloc (.cells #[.string ⟨#[103, 101, 116]⟩, .string ⟨#[112, 117, 116]⟩, .string ⟨#[97, 100, 100]⟩] 9)).heap.size (w1.alloc (.cells #[.string ⟨#[103, 101, 116]⟩, .string ⟨#[112, 117, 116]⟩, .string ⟨#[97, 100, 100]⟩] 9)) (w1.alloc (.cells #[.string ⟨#[103, 101, 116]⟩, .string ⟨#[112, 117, 116]⟩, .string ⟨#[97, 100, 100]⟩] 9)).drew from (Below.refl _ _).drew).alloc (Nat.le_refl _) _
  rw [World.size_alloc] at hc0
  have hc1 := Lib.hid (hc0.on ((Below.refl _ _).alloc (Nat.le_refl _) (.cells #[.int .u8 32] 5)))
  have hl1 := Lib.hid (read1 ((w1.alloc (.cells #[.string ⟨#[103, 101, 116]⟩, .string ⟨#[112, 117, 116]⟩, .string ⟨#[97, 100, 100]⟩] 9)).drew.alloc (.cells (bytesRow ⟨#[103, 101, 116]⟩ (grownCap (w1.alloc (.cells #[.string ⟨#[103, 101, 116]⟩, .string ⟨#[112, 117, 116]⟩, .string ⟨#[97, 100, 100]⟩] 9)) 3 0 5)) 5 ((bytesRow ⟨#[103, 101, 116]⟩ (grownCap (w1.alloc (.cells #[.string ⟨#[103, 101, 116]⟩, .string ⟨#[112, 117, 116]⟩, .string ⟨#[97, 100, 100]⟩] 9)) 3 0 5)).size, (bytesRow ⟨#[103, 101, 116]⟩ (grownCap (w1.alloc (.cells #[.string ⟨#[103, 101, 116]⟩, .string ⟨#[112, 117, 116]⟩, .string ⟨#[97, 100, 100]⟩] 9)) 3 0 5)).size + 1))) (.int .u8 32) (w1.heap.size + 1 + 1) (by simp [World.drew]))
  have hB4 := Lib.hid (hB2.trans ((hbc.alloc hbc.size (.cells #[.int .u8 32] 5)).mono (by have := hB2.size; omega)))
  have ka4 := Lib.hid ((ka2.on hbc).alloc (.cells #[.int .u8 32] 5))
  clear hc0 hbc
  have hz1 : w.heap.size + 1 ≤ w1.heap.size := by have := hB1.size; have := ka1.lt; omega
  have HZ4 : Hid (w.heap.size + 1 ≤ (((w1.alloc (.cells #[.string ⟨#[103, 101, 116]⟩, .string ⟨#[112, 117, 116]⟩, .string ⟨#[97, 100, 100]⟩] 9)).drew.alloc (.cells (bytesRow ⟨#[103, 101, 116]⟩ (grownCap (w1.alloc (.cells #[.string ⟨#[103, 101, 116]⟩, .string ⟨#[112, 117, 116]⟩, .string ⟨#[97, 100, 100]⟩] 9)) 3 0 5)) 5 ((bytesRow ⟨#[103, 101, 116]⟩ (grownCap (w1.alloc (.cells #[.string ⟨#[103, 101, 116]⟩, .string ⟨#[112, 117, 116]⟩, .string ⟨#[97, 100, 100]⟩] 9)) 3 0 5)).size, (bytesRow ⟨#[103, 101, 116]⟩ (grownCap (w1.alloc (.cells #[.string ⟨#[103, 101, 116]⟩, .string ⟨#[112, 117, 116]⟩, .string ⟨#[97, 100, 100]⟩] 9)) 3 0 5)).size + 1))).alloc (.cells #[.int .u8 32] 5)).heap.size) := by show _ ≤ _; simp [World.drew]; omega
  go_wp2_with (at_builtin; refine wpList_append_row rfl (.tmp 12) (.tmp 13) 22 5 i0 _ Tryd.underlying22 hi0 hz0 hz1' hz2 rfl rfl (by exact hc1.out) rfl rfl (by exact hl1.out) (by simp [Value.oneCell']) (by omega) ?_; intro g5 cap5 w5 hc5 hg5 hw5; have hc5 := Lib.hid hc5; have hB5 := Lib.hid (growB hg5 (by exact hB4.out) (by omega)); have ka5 := keepK (by exact ka4.out) hg5 (fun e => by injection e with e; omega); have ra5 := ka5.rule; have hge5 : w.heap.size + 1 ≤ g5 := hw5.elim (fun e => by omega) (fun e => by rw [e]; exact HZ4.out); clear hg5 hw5)
  refine (digit_any y (by omega) w5).mono ?_
  rintro e w6 ⟨rfl, rfl⟩
  have hc6 := Lib.hid (hc5.out.on ((Below.refl _ _).alloc (Nat.le_refl _) (.cells #[.int .u8 (48 + (y : Int))] 5)))
  have hl6 := Lib.hid (read1 w5 (.int .u8 (48 + (y : Int))) w5.heap.size rfl)
  have ka6 := ka5.alloc (.cells #[.int .u8 (48 + (y : Int))] 5)
  have hB6 := Lib.hid (up_ hB5.out (.cells #[.int .u8 (48 + (y : Int))] 5))
  have hz6 : w.heap.size + 1 ≤ w5.heap.size := by have := hc5.out.lt; omega
  have HZ6 : Hid (w.heap.size + 1 ≤ (w5.alloc (.cells #[.int .u8 (48 + (y : Int))] 5)).heap.size) := by show _ ≤ _; simp; omega
  clear hc1 hl1 hB4 ka4 HZ4 hc5 hB5 ka5 ra5 ka1 ra1 ka2 ra2 hB1 hB2 kc
  go_wp2_with (at_builtin; refine wpList_append_row rfl (.tmp 15) (.tmp 18) 22 5 i0 _ Tryd.underlying22 hi0 hz0 hz1' hz2 rfl rfl (by exact hc6.out) rfl rfl (by exact hl6.out) (by simp [Value.oneCell']) (by omega) ?_; intro g7 cap7 w7 hc7 hg7 hw7; have hc7 := Lib.hid hc7; have hB7 := Lib.hid (growB hg7 (by exact hB6.out) (by omega)); have ka7 := keepK ka6 hg7 (fun e => by injection e with e; omega); have ra7 := ka7.rule; have hge7 : w.heap.size + 1 ≤ g7 := hw7.elim (fun e => by omega) (fun e => by rw [e]; exact HZ6.out); clear hg7 hw7)
  go_ret
  refine ⟨g7, cap7, rfl, by omega, ?_, hB7.out⟩
  have hT : u8s (cmdT 0 y 0) = byteCells ⟨#[103, 101, 116]⟩ ++ [.int .u8 32] ++ [.int .u8 (48 + (y : Int))] := rfl
  rw [hT]
  exact hc7.out
set_option maxHeartbeats 3200000 in
theorem specCT1 (y n : Nat) (hy : y < 4) (hn : n < 5) (w : World) : Calls Tryd.prog 14 #[.agg #[.int .i64 1, .int .i64 (y : Int), .int .i64 (n : Int)]] w (TX (cmdT 1 y (n : Int)) w) := by
  have hq : cmdB 1 y (n : Int) = true := by unfold cmdB; exact decide_eq_true (by omega)
  have HQ := Lib.hid hq; clear hq
  have kc := fun (w : World) => conv_text w ⟨#[112, 117, 116]⟩
  have ka := Blk.new w 27 #[.int .i64 1, .int .i64 (y : Int), .int .i64 (n : Int)]
  have hB := up_ (Below.refl w.heap.size w) (.cells #[.int .i64 1, .int .i64 (y : Int), .int .i64 (n : Int)] 27)
  go_enter Tryd.func14, Tryd.ntmps14
  go_wp2_with fail
  refine (specCmdOk_is true 1 y (n : Int) HQ.out _).mono ?_
  rintro e w1 ⟨rfl, hb1⟩
  have ka1 := ka.on hb1
  have hB1 := on_ hB hb1
  clear ka hB hb1
  have ra1 := ka1.rule
  have ka2 := ka1.alloc (.cells #[.string ⟨#[103, 101, 116]⟩, .string ⟨#[112, 117, 116]⟩, .string ⟨#[97, 100, 100]⟩] 9)
  have ra2 := ka2.rule
  have hB2 := up_ hB1 (.cells #[.string ⟨#[103, 101, 116]⟩, .string ⟨#[112, 117, 116]⟩, .string ⟨#[97, 100, 100]⟩] 9)
  obtain ⟨i0, hi0, hz0, hz1', hz2⟩ := info_parts infoB8
  have hc0 := CRow.of_text (w1.alloc (.cells #[.string ⟨#[103, 101, 116]⟩, .string ⟨#[112, 117, 116]⟩, .string ⟨#[97, 100, 100]⟩] 9)) ⟨#[112, 117, 116]⟩ 5 (by decide)
  have hbc : Below (w1.alloc (.cells #[.string ⟨#[103, 101, 116]⟩, .string ⟨#[112, 117, 116]⟩, .string ⟨#[97, 100, 100]⟩] 9)).heap.size (w1.alloc (.cells #[.string ⟨#[103, 101, 116]⟩, .string ⟨#[112, 117, 116]⟩, .string ⟨#[97, 100, 100]⟩] 9)) ((w1.alloc (.cells #[.string ⟨#[103, 101, 116]⟩, .string ⟨#[112, 117, 116]⟩, .string ⟨#[97, 100, 100]⟩] 9)).drew.alloc (.cells (bytesRow ⟨#[112, 117, 116]⟩ (grownCap (w1.alloc (.cells #[.string ⟨#[103, 101, 116]⟩, .string ⟨#[112, 117, 116]⟩, .string ⟨#[97, 100, 100]⟩] 9)) 3 0 5)) 5 ((bytesRow ⟨#[112, 117, 116]⟩ (grownCap (w1.alloc (.cells #[.string ⟨#[103, 101, 116]⟩, .string ⟨#[112, 117, 116]⟩, .string ⟨#[97, 100, 100]⟩] 9)) 3 0 5)).size, (bytesRow ⟨#[112, 117, 116]⟩ (grownCap (w1.alloc (.cells #[.string ⟨#[103, 101, 116]⟩, .string ⟨#[112, 117, 116]⟩, .string ⟨#[97, 100, 100]⟩] 9)) 3 0 5)).size + 1))) := (show Below (w1.alloc (.cells #[.string ⟨#[103, 101, 116]⟩, .string ⟨#[112, 117, 116]⟩, .string ⟨#[97, 100, 100]⟩] 9)).heap.size (w1.alloc (.cells #[.string ⟨#[103, 101, 116]⟩, .string ⟨#[112, 117, 116]⟩, .string ⟨#[97, 100, 100]⟩] 9)) (w1.alloc (.cells #[.string ⟨#[103, 101, 116]⟩, .string ⟨#[112, 117, 116]⟩, .string ⟨#[97, 100, 100]⟩] 9)).drew from (Below.refl _ _).drew).alloc (Nat.le_refl _) _
  rw [World.size_alloc] at hc0
  have hc1 := Lib.hid (hc0.on ((Below.refl _ _).alloc (Nat.le_refl _) (.cells #[.int .u8 32] 5)))
  have hl1 := Lib.hid (read1 ((w1.alloc (.cells #[.string ⟨#[103, 101, 116]⟩, .string ⟨#[112, 117, 116]⟩, .string ⟨#[97, 100, 100]⟩] 9)).drew.alloc (.cells (bytesRow ⟨#[112, 117, 116]⟩ (grownCap (w1.alloc (.cells #[.string ⟨#[103, 101, 116]⟩, .string ⟨#[112, 117, 116]⟩, .string ⟨#[97, 100, 100]⟩] 9)) 3 0 5)) 5 ((bytesRow ⟨#[112, 117, 116]⟩ (grownCap (w1.alloc (.cells #[.string ⟨#[103, 101, 116]⟩, .string ⟨#[112, 117, 116]⟩, .string ⟨#[97, 100, 100]⟩] 9)) 3 0 5)).size, (bytesRow ⟨#[112, 117, 116]⟩ (grownCap (w1.alloc (.cells #[.string ⟨#[103, 101, 116]⟩, .string ⟨#[112, 117, 116]⟩, .string ⟨#[97, 100, 100]⟩] 9)) 3 0 5)).size + 1))) (.int .u8 32) (w1.heap.size + 1 + 1) (by simp [World.drew]))
  have hB4 := Lib.hid (hB2.trans ((hbc.alloc hbc.size (.cells #[.int .u8 32] 5)).mono (by have := hB2.size; omega)))
  have ka4 := Lib.hid ((ka2.on hbc).alloc (.cells #[.int .u8 32] 5))
  clear hc0 hbc
  have hz1 : w.heap.size + 1 ≤ w1.heap.size := by have := hB1.size; have := ka1.lt; omega
  have HZ4 : Hid (w.heap.size + 1 ≤ (((w1.alloc (.cells #[.string ⟨#[103, 101, 116]⟩, .string ⟨#[112, 117, 116]⟩, .string ⟨#[97, 100, 100]⟩] 9)).drew.alloc (.cells (bytesRow ⟨#[112, 117, 116]⟩ (grownCap (w1.alloc (.cells #[.string ⟨#[103, 101, 116]⟩, .string ⟨#[112, 117, 116]⟩, .string ⟨#[97, 100, 100]⟩] 9)) 3 0 5)) 5 ((bytesRow ⟨#[112, 117, 116]⟩ (grownCap (w1.alloc (.cells #[.string ⟨#[103, 101, 116]⟩, .string ⟨#[112, 117, 116]⟩, .string ⟨#[97, 100, 100]⟩] 9)) 3 0 5)).size, (bytesRow ⟨#[112, 117, 116]⟩ (grownCap (w1.alloc (.cells #[.string ⟨#[103, 101, 116]⟩, .string ⟨#[112, 117, 116]⟩, .string ⟨#[97, 100, 100]⟩] 9)) 3 0 5)).size + 1))).alloc (.cells #[.int .u8 32] 5)).heap.size) := by show _ ≤ _; simp [World.drew]; omega
  go_wp2_with (at_builtin; refine wpList_append_row rfl (.tmp 12) (.tmp 13) 22 5 i0 _ Tryd.underlying22 hi0 hz0 hz1' hz2 rfl rfl (by exact hc1.out) rfl rfl (by exact hl1.out) (by simp [Value.oneCell']) (by omega) ?_; intro g5 cap5 w5 hc5 hg5 hw5; have hc5 := Lib.hid hc5; have hB5 := Lib.hid (growB hg5 (by exact hB4.out) (by omega)); have ka5 := keepK (by exact ka4.out) hg5 (fun e => by injection e with e; omega); have ra5 := ka5.rule; have hge5 : w.heap.size + 1 ≤ g5 := hw5.elim (fun e => by omega) (fun e => by rw [e]; exact HZ4.out); clear hg5 hw5)
  refine (digit_any y (by omega) w5).mono ?_
  rintro e w6 ⟨rfl, rfl⟩
  have hc6 := Lib.hid (hc5.out.on ((Below.refl _ _).alloc (Nat.le_refl _) (.cells #[.int .u8 (48 + (y : Int))] 5)))
  have hl6 := Lib.hid (read1 w5 (.int .u8 (48 + (y : Int))) w5.heap.size rfl)
  have ka6 := ka5.alloc (.cells #[.int .u8 (48 + (y : Int))] 5)
  have hB6 := Lib.hid (up_ hB5.out (.cells #[.int .u8 (48 + (y : Int))] 5))
  have hz6 : w.heap.size + 1 ≤ w5.heap.size := by have := hc5.out.lt; omega
  have HZ6 : Hid (w.heap.size + 1 ≤ (w5.alloc (.cells #[.int .u8 (48 + (y : Int))] 5)).heap.size) := by show _ ≤ _; simp; omega
  clear hc1 hl1 hB4 ka4 HZ4 hc5 hB5 ka5 ra5 ka1 ra1 ka2 ra2 hB1 hB2 kc
  go_wp2_with (at_builtin; refine wpList_append_row rfl (.tmp 15) (.tmp 18) 22 5 i0 _ Tryd.underlying22 hi0 hz0 hz1' hz2 rfl rfl (by exact hc6.out) rfl rfl (by exact hl6.out) (by simp [Value.oneCell']) (by omega) ?_; intro g7 cap7 w7 hc7 hg7 hw7; have hc7 := Lib.hid hc7; have hB7 := Lib.hid (growB hg7 (by exact hB6.out) (by omega)); have ka7 := keepK ka6 hg7 (fun e => by injection e with e; omega); have ra7 := ka7.rule; have hge7 : w.heap.size + 1 ≤ g7 := hw7.elim (fun e => by omega) (fun e => by rw [e]; exact HZ6.out); clear hg7 hw7)
  have X1 := Lib.hid (crow_dr (hc7.out.on ((Below.refl _ _).alloc (Nat.le_refl _) (.cells #[.int .u8 32] 5))))
  have B1 := Lib.hid (up_ hB7.out (.cells #[.int .u8 32] 5)).drew
  have L1 := Lib.hid (read1 w7 (.int .u8 32) w7.heap.size rfl).drew
  have hg7lt := hc7.out.lt
  have ra8 := ka7.rule
  have kq1 := (ka7.alloc (.cells #[.int .u8 32] 5)).dr.rule
  go_wp2_with fail
  go_region_law (first
    | (refine step_append_row rfl (.tmp 23) (.tmp 24) 22 5 i0 _ Tryd.underlying22 hi0 hz0 hz1' hz2 rfl rfl (by exact X1.out) rfl rfl (by exact L1.out) (by simp [Value.oneCell']) (by omega) ?_; intro g8 cap8 w8 hc8 hg8 hw8; have hc8 := Lib.hid hc8; have hB8 := Lib.hid (growB hg8 (by exact B1.out) (by omega)); have hge8 : w.heap.size ≤ g8 := hw8.elim (fun e => by omega) (fun e => by rw [e]; exact B1.out.size); have kr8 := (by exact keepK (ka7.alloc (.cells #[.int .u8 32] 5)).dr hg8 (fun e => by injection e with e; omega) : Blk w8 w.heap.size 27 #[.int .i64 1, .int .i64 (y : Int), .int .i64 (n : Int)]); have rr8 := kr8.rule)
    | (refine step_append_row rfl (.tmp 25) (.tmp 28) 22 5 i0 _ Tryd.underlying22 hi0 hz0 hz1' hz2 rfl rfl (by exact hc8.out.on ((Below.refl _ _).alloc (Nat.le_refl _) (.cells #[.int .u8 (48 + (n : Int))] 5))) rfl rfl (by exact read1 w8 (.int .u8 (48 + (n : Int))) w8.heap.size rfl) (by simp [Value.oneCell']) (by omega) ?_; intro g9 cap9 w9 hc9 hg9 hw9; have hc9 := Lib.hid hc9; have hB9 := Lib.hid (growB hg9 (by exact up_ hB8.out (.cells #[.int .u8 (48 + (n : Int))] 5)) (by omega)); have hge9 : w.heap.size ≤ g9 := hw9.elim (fun e => by omega) (fun e => by rw [e]; exact (up_ hB8.out (.cells #[.int .u8 (48 + (n : Int))] 5)).size))
    | (go_simp; go_at_call 39; refine (digit_any n (by omega) _).mono ?_; rintro e w6' ⟨rfl, rfl⟩))
  all_goals go_wp2
  all_goals go_ret
  all_goals refine ⟨g9, cap9, rfl, by omega, ?_, hB9.out⟩
  all_goals (have hT : u8s (cmdT 1 y n) = (byteCells ⟨#[112, 117, 116]⟩ ++ [.int .u8 32] ++ [.int .u8 (48 + (y : Int))]) ++ [.int .u8 32] ++ [.int .u8 (48 + (n : Int))] := rfl)
  all_goals rw [hT]
  all_goals exact hc9.out
set_option maxHeartbeats 3200000 in
theorem specCT2 (y n : Nat) (hy : y < 4) (hn : n < 5) (w : World) : Calls Tryd.prog 14 #[.agg #[.int .i64 2, .int .i64 (y : Int), .int .i64 (n : Int)]] w (TX (cmdT 2 y (n : Int)) w) := by
  have hq : cmdB 2 y (n : Int) = true := by unfold cmdB; exact decide_eq_true (by omega)
  have HQ := Lib.hid hq; clear hq
  have kc := fun (w : World) => conv_text w ⟨#[97, 100, 100]⟩
  have ka := Blk.new w 27 #[.int .i64 2, .int .i64 (y : Int), .int .i64 (n : Int)]
  have hB := up_ (Below.refl w.heap.size w) (.cells #[.int .i64 2, .int .i64 (y : Int), .int .i64 (n : Int)] 27)
  go_enter Tryd.func14, Tryd.ntmps14
  go_wp2_with fail
  refine (specCmdOk_is true 2 y (n : Int) HQ.out _).mono ?_
  rintro e w1 ⟨rfl, hb1⟩
  have ka1 := ka.on hb1
  have hB1 := on_ hB hb1
  clear ka hB hb1
  have ra1 := ka1.rule
  have ka2 := ka1.alloc (.cells #[.string ⟨#[103, 101, 116]⟩, .string ⟨#[112, 117, 116]⟩, .string ⟨#[97, 100, 100]⟩] 9)
  have ra2 := ka2.rule
  have hB2 := up_ hB1 (.cells #[.string ⟨#[103, 101, 116]⟩, .string ⟨#[112, 117, 116]⟩, .string ⟨#[97, 100, 100]⟩] 9)
  obtain ⟨i0, hi0, hz0, hz1', hz2⟩ := info_parts infoB8
  have hc0 := CRow.of_text (w1.alloc (.cells #[.string ⟨#[103, 101, 116]⟩, .string ⟨#[112, 117, 116]⟩, .string ⟨#[97, 100, 100]⟩] 9)) ⟨#[97, 100, 100]⟩ 5 (by decide)
  have hbc : Below (w1.alloc (.cells #[.string ⟨#[103, 101, 116]⟩, .string ⟨#[112, 117, 116]⟩, .string ⟨#[97, 100, 100]⟩] 9)).heap.size (w1.alloc (.cells #[.string ⟨#[103, 101, 116]⟩, .string ⟨#[112, 117, 116]⟩, .string ⟨#[97, 100, 100]⟩] 9)) ((w1.alloc (.cells #[.string ⟨#[103, 101, 116]⟩, .string ⟨#[112, 117, 116]⟩, .string ⟨#[97, 100, 100]⟩] 9)).drew.alloc (.cells (bytesRow ⟨#[97, 100, 100]⟩ (grownCap (w1.alloc (.cells #[.string ⟨#[103, 101, 116]⟩, .string ⟨#[112, 117, 116]⟩, .string ⟨#[97, 100, 100]⟩] 9)) 3 0 5)) 5 ((bytesRow ⟨#[97, 100, 100]⟩ (grownCap (w1.alloc (.cells #[.string ⟨#[103, 101, 116]⟩, .string ⟨#[112, 117, 116]⟩, .string ⟨#[97, 100, 100]⟩] 9)) 3 0 5)).size, (bytesRow ⟨#[97, 100, 100]⟩ (grownCap (w1.alloc (.cells #[.string ⟨#[103, 101, 116]⟩, .string ⟨#[112, 117, 116]⟩, .string ⟨#[97, 100, 100]⟩] 9)) 3 0 5)).size + 1))) := (show Below (w1.alloc (.cells #[.string ⟨#[103, 101, 116]⟩, .string ⟨#[112, 117, 116]⟩, .string ⟨#[97, 100, 100]⟩] 9)).heap.size (w1.alloc (.cells #[.string ⟨#[103, 101, 116]⟩, .string ⟨#[112, 117, 116]⟩, .string ⟨#[97, 100, 100]⟩] 9)) (w1.alloc (.cells #[.string ⟨#[103, 101, 116]⟩, .string ⟨#[112, 117, 116]⟩, .string ⟨#[97, 100, 100]⟩] 9)).drew from (Below.refl _ _).drew).alloc (Nat.le_refl _) _
  rw [World.size_alloc] at hc0
  have hc1 := Lib.hid (hc0.on ((Below.refl _ _).alloc (Nat.le_refl _) (.cells #[.int .u8 32] 5)))
  have hl1 := Lib.hid (read1 ((w1.alloc (.cells #[.string ⟨#[103, 101, 116]⟩, .string ⟨#[112, 117, 116]⟩, .string ⟨#[97, 100, 100]⟩] 9)).drew.alloc (.cells (bytesRow ⟨#[97, 100, 100]⟩ (grownCap (w1.alloc (.cells #[.string ⟨#[103, 101, 116]⟩, .string ⟨#[112, 117, 116]⟩, .string ⟨#[97, 100, 100]⟩] 9)) 3 0 5)) 5 ((bytesRow ⟨#[97, 100, 100]⟩ (grownCap (w1.alloc (.cells #[.string ⟨#[103, 101, 116]⟩, .string ⟨#[112, 117, 116]⟩, .string ⟨#[97, 100, 100]⟩] 9)) 3 0 5)).size, (bytesRow ⟨#[97, 100, 100]⟩ (grownCap (w1.alloc (.cells #[.string ⟨#[103, 101, 116]⟩, .string ⟨#[112, 117, 116]⟩, .string ⟨#[97, 100, 100]⟩] 9)) 3 0 5)).size + 1))) (.int .u8 32) (w1.heap.size + 1 + 1) (by simp [World.drew]))
  have hB4 := Lib.hid (hB2.trans ((hbc.alloc hbc.size (.cells #[.int .u8 32] 5)).mono (by have := hB2.size; omega)))
  have ka4 := Lib.hid ((ka2.on hbc).alloc (.cells #[.int .u8 32] 5))
  clear hc0 hbc
  have hz1 : w.heap.size + 1 ≤ w1.heap.size := by have := hB1.size; have := ka1.lt; omega
  have HZ4 : Hid (w.heap.size + 1 ≤ (((w1.alloc (.cells #[.string ⟨#[103, 101, 116]⟩, .string ⟨#[112, 117, 116]⟩, .string ⟨#[97, 100, 100]⟩] 9)).drew.alloc (.cells (bytesRow ⟨#[97, 100, 100]⟩ (grownCap (w1.alloc (.cells #[.string ⟨#[103, 101, 116]⟩, .string ⟨#[112, 117, 116]⟩, .string ⟨#[97, 100, 100]⟩] 9)) 3 0 5)) 5 ((bytesRow ⟨#[97, 100, 100]⟩ (grownCap (w1.alloc (.cells #[.string ⟨#[103, 101, 116]⟩, .string ⟨#[112, 117, 116]⟩, .string ⟨#[97, 100, 100]⟩] 9)) 3 0 5)).size, (bytesRow ⟨#[97, 100, 100]⟩ (grownCap (w1.alloc (.cells #[.string ⟨#[103, 101, 116]⟩, .string ⟨#[112, 117, 116]⟩, .string ⟨#[97, 100, 100]⟩] 9)) 3 0 5)).size + 1))).alloc (.cells #[.int .u8 32] 5)).heap.size) := by show _ ≤ _; simp [World.drew]; omega
  go_wp2_with (at_builtin; refine wpList_append_row rfl (.tmp 12) (.tmp 13) 22 5 i0 _ Tryd.underlying22 hi0 hz0 hz1' hz2 rfl rfl (by exact hc1.out) rfl rfl (by exact hl1.out) (by simp [Value.oneCell']) (by omega) ?_; intro g5 cap5 w5 hc5 hg5 hw5; have hc5 := Lib.hid hc5; have hB5 := Lib.hid (growB hg5 (by exact hB4.out) (by omega)); have ka5 := keepK (by exact ka4.out) hg5 (fun e => by injection e with e; omega); have ra5 := ka5.rule; have hge5 : w.heap.size + 1 ≤ g5 := hw5.elim (fun e => by omega) (fun e => by rw [e]; exact HZ4.out); clear hg5 hw5)
  refine (digit_any y (by omega) w5).mono ?_
  rintro e w6 ⟨rfl, rfl⟩
  have hc6 := Lib.hid (hc5.out.on ((Below.refl _ _).alloc (Nat.le_refl _) (.cells #[.int .u8 (48 + (y : Int))] 5)))
  have hl6 := Lib.hid (read1 w5 (.int .u8 (48 + (y : Int))) w5.heap.size rfl)
  have ka6 := ka5.alloc (.cells #[.int .u8 (48 + (y : Int))] 5)
  have hB6 := Lib.hid (up_ hB5.out (.cells #[.int .u8 (48 + (y : Int))] 5))
  have hz6 : w.heap.size + 1 ≤ w5.heap.size := by have := hc5.out.lt; omega
  have HZ6 : Hid (w.heap.size + 1 ≤ (w5.alloc (.cells #[.int .u8 (48 + (y : Int))] 5)).heap.size) := by show _ ≤ _; simp; omega
  clear hc1 hl1 hB4 ka4 HZ4 hc5 hB5 ka5 ra5 ka1 ra1 ka2 ra2 hB1 hB2 kc
  go_wp2_with (at_builtin; refine wpList_append_row rfl (.tmp 15) (.tmp 18) 22 5 i0 _ Tryd.underlying22 hi0 hz0 hz1' hz2 rfl rfl (by exact hc6.out) rfl rfl (by exact hl6.out) (by simp [Value.oneCell']) (by omega) ?_; intro g7 cap7 w7 hc7 hg7 hw7; have hc7 := Lib.hid hc7; have hB7 := Lib.hid (growB hg7 (by exact hB6.out) (by omega)); have ka7 := keepK ka6 hg7 (fun e => by injection e with e; omega); have ra7 := ka7.rule; have hge7 : w.heap.size + 1 ≤ g7 := hw7.elim (fun e => by omega) (fun e => by rw [e]; exact HZ6.out); clear hg7 hw7)
  have X1 := Lib.hid (crow_dr (hc7.out.on ((Below.refl _ _).alloc (Nat.le_refl _) (.cells #[.int .u8 32] 5))))
  have B1 := Lib.hid (up_ hB7.out (.cells #[.int .u8 32] 5)).drew
  have L1 := Lib.hid (read1 w7 (.int .u8 32) w7.heap.size rfl).drew
  have hg7lt := hc7.out.lt
  have ra8 := ka7.rule
  have kq1 := (ka7.alloc (.cells #[.int .u8 32] 5)).dr.rule
  go_wp2_with fail
  go_region_law (first
    | (refine step_append_row rfl (.tmp 23) (.tmp 24) 22 5 i0 _ Tryd.underlying22 hi0 hz0 hz1' hz2 rfl rfl (by exact X1.out) rfl rfl (by exact L1.out) (by simp [Value.oneCell']) (by omega) ?_; intro g8 cap8 w8 hc8 hg8 hw8; have hc8 := Lib.hid hc8; have hB8 := Lib.hid (growB hg8 (by exact B1.out) (by omega)); have hge8 : w.heap.size ≤ g8 := hw8.elim (fun e => by omega) (fun e => by rw [e]; exact B1.out.size); have kr8 := (by exact keepK (ka7.alloc (.cells #[.int .u8 32] 5)).dr hg8 (fun e => by injection e with e; omega) : Blk w8 w.heap.size 27 #[.int .i64 2, .int .i64 (y : Int), .int .i64 (n : Int)]); have rr8 := kr8.rule)
    | (refine step_append_row rfl (.tmp 25) (.tmp 28) 22 5 i0 _ Tryd.underlying22 hi0 hz0 hz1' hz2 rfl rfl (by exact hc8.out.on ((Below.refl _ _).alloc (Nat.le_refl _) (.cells #[.int .u8 (48 + (n : Int))] 5))) rfl rfl (by exact read1 w8 (.int .u8 (48 + (n : Int))) w8.heap.size rfl) (by simp [Value.oneCell']) (by omega) ?_; intro g9 cap9 w9 hc9 hg9 hw9; have hc9 := Lib.hid hc9; have hB9 := Lib.hid (growB hg9 (by exact up_ hB8.out (.cells #[.int .u8 (48 + (n : Int))] 5)) (by omega)); have hge9 : w.heap.size ≤ g9 := hw9.elim (fun e => by omega) (fun e => by rw [e]; exact (up_ hB8.out (.cells #[.int .u8 (48 + (n : Int))] 5)).size))
    | (go_simp; go_at_call 39; refine (digit_any n (by omega) _).mono ?_; rintro e w6' ⟨rfl, rfl⟩))
  all_goals go_wp2
  all_goals go_ret
  all_goals refine ⟨g9, cap9, rfl, by omega, ?_, hB9.out⟩
  all_goals (have hT : u8s (cmdT 2 y n) = (byteCells ⟨#[97, 100, 100]⟩ ++ [.int .u8 32] ++ [.int .u8 (48 + (y : Int))]) ++ [.int .u8 32] ++ [.int .u8 (48 + (n : Int))] := rfl)
  all_goals rw [hT]
  all_goals exact hc9.out
end Go.Proofs.YtfebeafonifpdaaDoor.V
