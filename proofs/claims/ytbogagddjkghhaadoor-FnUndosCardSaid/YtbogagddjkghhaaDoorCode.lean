/-
  The model's cursor over the bytes of a draw: what it answers is some number in its range. No statement is proved here.
-/
import Derived.Test.YtbogagddjkghhaaDoorChecked
import Derived.Test.YtbogagddjkghhaaDoorReads
import Derived.Test.YtbogagddjkghhaaDoorLift
import Derived.Deep.Slices
set_option linter.unusedVariables false
set_option maxRecDepth 100000
namespace Go.Proofs.YtbogagddjkghhaaDoor.V
open Go.RowKit Go.ChangeShapes Go.WideShapes Go.Deep Go.Proofs.YtbogagddjkghhaaDoor.B

/-- A slice value at address A, of n bytes, below block Bd. -/
def RdC (w : World) (Bd : Nat) (A : Option Addr) (n : Nat) : Prop :=
  0 < n → ∃ b off, A = some ⟨b, off, none⟩ ∧ b < Bd ∧ ∀ j, j < n → ∃ x : Int, 0 ≤ x ∧ x ≤ 255 ∧ w.cell? ⟨b, off + j, none⟩ = some (.int .u8 x)
theorem RdC.below {w w' : World} {Bd : Nat} {A : Option Addr} {n : Nat} (h : RdC w Bd A n) (hb : Below Bd w w') : RdC w' Bd A n := fun h0 => by
  obtain ⟨b, off, e, hlt, hc⟩ := h h0
  refine ⟨b, off, e, hlt, fun j hj => ?_⟩
  obtain ⟨x, h1, h2, h3⟩ := hc j hj
  exact ⟨x, h1, h2, (hb.cell (p := ⟨b, off + j, none⟩) hlt).trans h3⟩
theorem RdC.more {w : World} {Bd Bd' : Nat} {A : Option Addr} {n : Nat} (h : RdC w Bd A n) (hB : Bd ≤ Bd') : RdC w Bd' A n := fun h0 => by
  obtain ⟨b, off, e, hlt, hc⟩ := h h0
  exact ⟨b, off, e, by omega, hc⟩
def Cur (Bd : Nat) (w : World) (p : Nat) : Prop :=
  ∃ A n c, ∃ (i : Nat) (h : Int), Blk w p 116 #[.slice A n c, .int .i64 i, .int .i64 h] ∧ RdC w Bd A n ∧ i ≤ n ∧ n ≤ maxLen ∧ Bd ≤ p
theorem and255 (a : Int) : 0 ≤ bits .and .i64 a 255 ∧ bits .and .i64 a 255 ≤ 255 := by
  have h1 : (BitVec.ofInt IntKind.i64.bits 255).toNat = 255 := by decide
  have h2 := Nat.and_le_right (n := (BitVec.ofInt IntKind.i64.bits a).toNat) (m := 255)
  simp only [bits, BitVec.toNat_and, h1]
  generalize (BitVec.ofInt IntKind.i64.bits a).toNat &&& 255 = m at *
  have h3 : IntKind.i64.wrap (m : Int) = (m : Int) := IntWalk.i64_in _ (by omega)
  rw [h3]
  omega
theorem RdC.keep {w w' : World} {Bd p : Nat} {A : Option Addr} {n : Nat} (h : RdC w Bd A n) (hg : w.grownBy w' (some p)) (hB : Bd ≤ p) (hp : p < w.heap.size) : RdC w' Bd A n := fun h0 => by
  obtain ⟨b, off, e, hlt, hc⟩ := h h0
  refine ⟨b, off, e, hlt, fun j hj => ?_⟩
  obtain ⟨x, h1, h2, h3⟩ := hc j hj
  exact ⟨x, h1, h2, (World.cell?_of_block (a := ⟨b, off + j, none⟩) (hg.block b (by omega) (fun e => by injection e with e; omega))).trans h3⟩
theorem cgrown_set {w w' : World} {p i : Nat} {u : Value} (h : w.grownBy w' (some p)) : w.grownBy (w'.setCell ⟨p, i, none⟩ u) (some p) :=
  ⟨h.os, h.tape, h.output, by simpa using h.size, fun k hk hne => (Below.heap_setCell _ _ _ _ (fun e => hne (by rw [e]))).trans (h.block k hk hne)⟩
theorem cgrown_drewN {w w' : World} {row : Option Nat} (h : w.grownBy w' row) (k : Nat) : w.grownBy (w'.drewN k) row := ⟨h.os, h.tape, h.output, h.size, h.block⟩
theorem cgrown_same (w : World) (row : Option Nat) : w.grownBy w row := ⟨rfl, rfl, rfl, Nat.le_refl _, fun _ _ _ => rfl⟩
set_option maxHeartbeats 3200000 in
theorem byte_any (Bd p : Nat) (w : World) (h : Cur Bd w p) :
    Calls Tryd.prog 96 #[.pointer (some ⟨p, 0, none⟩)] w fun e w' => ∃ x : Int, 0 ≤ x ∧ x ≤ 255 ∧ e = .returned (.int .i64 x) ∧ Cur Bd w' p ∧ w.grownBy w' (some p) := by
  obtain ⟨A, n, c, i, h, kb, hr, hi, hm, hB⟩ := h
  have rb := fun i => kb.cell i
  have fb := fun i => kb.frozen i
  have hpl := kb.lt
  have hm' : n ≤ 9223372036854775807 := by simp only [maxLen] at hm; omega
  go_enter Tryd.func96, Tryd.ntmps96
  go_wp2
  have kb1 : Blk (w.setCell ⟨p, 2, none⟩ (.int .i64 (wrap64 (wrap64 (h * 6364136223846793005) + 1442695040888963407)))) p 116 #[.slice A n c, .int .i64 i, .int .i64 (wrap64 (wrap64 (h * 6364136223846793005) + 1442695040888963407))] := kb.set_ 2 _
  have hg1 : w.grownBy (w.setCell ⟨p, 2, none⟩ (.int .i64 (wrap64 (wrap64 (h * 6364136223846793005) + 1442695040888963407)))) (some p) := cgrown_set (cgrown_same w _)
  generalize wrap64 (wrap64 (h * 6364136223846793005) + 1442695040888963407) = H at *
  generalize w.setCell ⟨p, 2, none⟩ (.int .i64 H) = w1 at *
  have hr1 := hr.keep hg1 hB hpl
  clear rb fb kb
  have rb1 := fun i => kb1.cell i
  go_quiet (fail)
  have hx := and255 (bits BinOp.xor IntKind.i64 (H / 8589934592) (H / 35184372088832))
  generalize bits BinOp.and IntKind.i64 (bits BinOp.xor IntKind.i64 (H / 8589934592) (H / 35184372088832)) 255 = x at *
  by_cases hlt : i < n
  · obtain ⟨b, off, rfl, hb, hc⟩ := hr1 (by omega)
    obtain ⟨y, hy0, hy1, hcy⟩ := hc i hlt
    have a1 : (0 : Int) ≤ (i : Int) := by omega
    have a2 : (i : Int) < (n : Int) := by omega
    have fb1 := fun i => kb1.frozen i
    have hW : IntKind.i64.wrap ((i : Int) + 1) = (i : Int) + 1 := IntWalk.i64_in _ (by omega)
    have kb2 := kb1.set_ 1 (.int .i64 ((i : Int) + 1))
    go_wp2
    go_quiet (fail)
    go_wp2
    go_quiet (fail)
    go_wp2
    go_ret
    have kb3 : ∀ k, Blk ((w1.drewN k).setCell ⟨p, 1, none⟩ (.int .i64 ((i : Int) + 1))) p 116 #[.slice (some ⟨b, off, none⟩) n c, .int .i64 ((i + 1 : Nat) : Int), .int .i64 H] := fun k => (kb1.drewN k).set_ 1 _
    have hg2 : ∀ k, w.grownBy ((w1.drewN k).setCell ⟨p, 1, none⟩ (.int .i64 ((i : Int) + 1))) (some p) := fun k => cgrown_set (cgrown_drewN hg1 k)
    exact ⟨_, (and255 _).1, (and255 _).2, rfl, ⟨_, n, c, i + 1, H, kb3 _, hr.keep (hg2 _) hB hpl, hlt, hm, hB⟩, hg2 _⟩
  · have hf : decide ((i : Int) < (n : Int)) = false := by simp; omega
    go_wp2
    go_quiet (fail)
    go_wp2
    go_ret
    exact ⟨x, hx.1, hx.2, rfl, ⟨A, n, c, i, H, (kb1.drewN _).drewN _, hr1, hi, hm, hB⟩, cgrown_drewN (cgrown_drewN hg1 _) _⟩
theorem cur_next {Bd p : Nat} {w w' : World} (h : Cur Bd w p) (hb : Below w.heap.size w w') : Cur Bd w' p := by
  obtain ⟨A, n, c, i, h, kb, hr, hi, hm, hB⟩ := h
  have hlt := kb.lt
  exact ⟨A, n, c, i, h, kb.below hb hlt, hr.below (Below.mono hb (by omega)), hi, hm, hB⟩
theorem cur_lt {Bd p : Nat} {w : World} (h : Cur Bd w p) : p < w.heap.size ∧ Bd ≤ p := by
  obtain ⟨A, n, c, i, h, kb, hr, hi, hm, hB⟩ := h
  exact ⟨kb.lt, hB⟩
theorem cur_keep {Bd p : Nat} {w w' : World} {row : Option Nat} (h : Cur Bd w p) (hg : w.grownBy w' row) (hne : row ≠ some p) (hB : ∀ j, row = some j → Bd ≤ j) : Cur Bd w' p := by
  obtain ⟨A, n, c, i, h, kb, hr, hi, hm, hBp⟩ := h
  have hlt := kb.lt
  refine ⟨A, n, c, i, h, (hg.block p hlt (fun e => hne e.symm)).trans kb, fun h0 => ?_, hi, hm, hBp⟩
  obtain ⟨b, off, e, hb, hc⟩ := hr h0
  refine ⟨b, off, e, hb, fun j hj => ?_⟩
  obtain ⟨x, h1, h2, h3⟩ := hc j hj
  exact ⟨x, h1, h2, (World.cell?_of_block (a := ⟨b, off + j, none⟩) (hg.block b (by omega) (fun e => by have := hB b e.symm; omega))).trans h3⟩
theorem below_any (Bd p n : Nat) (h0 : 0 < n) (h1 : n ≤ 256) (w : World) (h : Cur Bd w p) :
    Calls Tryd.prog 53 #[.pointer (some ⟨p, 0, none⟩), .int .i64 n] w fun e w' => ∃ x : Nat, x < n ∧ e = .returned (.int .i64 x) ∧ Cur Bd w' p ∧ w.grownBy w' (some p) := by
  have a1 : decide ((n : Int) ≤ 0) = false := by simp; omega
  have a2 : (n : Int) ≤ 256 := by omega
  have a3 : ((n : Int) == 0) = false := by simp; omega
  go_enter Tryd.func53, Tryd.ntmps53
  go_wp2_with fail
  refine (byte_any Bd p w h).mono ?_
  rintro e w1 ⟨x, hx0, hx1, rfl, hc, hg⟩
  obtain ⟨m, rfl⟩ : ∃ m : Nat, x = m := ⟨x.toNat, by omega⟩
  have hq : (m : Int).tmod (n : Int) = ((m % n : Nat) : Int) := by rw [Int.tmod_eq_emod_of_nonneg (by omega)]; rfl
  have hlt := Nat.mod_lt m h0
  generalize m % n = r at *
  have hW : IntKind.i64.wrap (r : Int) = (r : Int) := IntWalk.i64_in _ (by omega)
  go_wp2
  go_ret
  exact ⟨r, hlt, rfl, hc, hg⟩
theorem once_any (Bd p n : Nat) (h0 : 0 < n) (h1 : n ≤ 256) (w : World) (h : Cur Bd w p) :
    Calls Tryd.prog 52 #[.pointer (some ⟨p, 0, none⟩), .int .i64 n] w fun e w' => ∃ q : Bool, e = .returned (.bool q) ∧ Cur Bd w' p ∧ w.grownBy w' (some p) := by
  go_enter Tryd.func52, Tryd.ntmps52
  go_wp2_with fail
  refine (below_any Bd p n h0 h1 w h).mono ?_
  rintro e w1 ⟨x, hx, rfl, hc, hg⟩
  go_wp2
  go_ret
  exact ⟨_, rfl, hc, hg⟩
set_option maxHeartbeats 3200000 in
theorem new_any (A : Option Addr) (n c : Nat) (hm : n ≤ maxLen) (w : World) (hr : RdC w w.heap.size A n) :
    Calls Tryd.prog 40 #[.slice A n c] w fun e w' => ∃ p, e = .returned (.pointer (some ⟨p, 0, none⟩)) ∧ Cur w.heap.size w' p ∧ Below w.heap.size w w' := by
  have hm' : n ≤ 9223372036854775807 := by simp only [maxLen] at hm; omega
  go_enter Tryd.func40, Tryd.ntmps40
  go_wp2
  go_loop [3, 4] (fun hv iv => ∃ (h : Int) (k : Nat), k ≤ n ∧ k ≤ 4000 ∧ hv = .int .i64 h ∧ iv = .int .i64 k) (fun _ iv => 4000 - (intOf iv).toNat)
  case atStart => exact ⟨_, 0, by omega, by omega, rfl, rfl⟩
  case round =>
    obtain ⟨h, k, hk, hk4, rfl, rfl⟩ := hrel
    by_cases hlt : k < n
    · by_cases hlt4 : k < 4000
      · obtain ⟨b, off, rfl, hb, hc⟩ := hr (by omega)
        obtain ⟨y, hy0, hy1, hcy⟩ := hc k hlt
        have a1 : (k : Int) < (n : Int) := by omega
        have a2 : (k : Int) < 4000 := by omega
        have hW : IntKind.i64.wrap ((k : Int) + 1) = (k : Int) + 1 := IntWalk.i64_in _ (by omega)
        go_wp2
        go_round
        case rel => exact ⟨_, k + 1, by omega, by omega, rfl, by go_num⟩
        case measure => simp [intOf]; omega
      · have hf : decide ((k : Int) < 4000) = false := by simp; omega
        have a1 : (k : Int) < (n : Int) := by omega
        go_wp2
        go_ret
        exact ⟨_, rfl, ⟨A, n, c, 0, h, Blk.new w _ _, hr.below ((Below.refl _ _).alloc (Nat.le_refl _) _), Nat.zero_le _, hm, Nat.le_refl _⟩, (Below.refl _ _).alloc (Nat.le_refl _) _⟩
    · have hf : decide ((k : Int) < (n : Int)) = false := by simp; omega
      go_wp2
      go_ret
      exact ⟨_, rfl, ⟨A, n, c, 0, h, Blk.new w _ _, hr.below ((Below.refl _ _).alloc (Nat.le_refl _) _), Nat.zero_le _, hm, Nat.le_refl _⟩, (Below.refl _ _).alloc (Nat.le_refl _) _⟩

theorem u8_in {n : Int} (h : (Lit.int .u8 n).wf = true) : 0 ≤ n ∧ n ≤ 255 := by
  have h' : IntKind.u8.min ≤ n ∧ n ≤ IntKind.u8.max := by simpa [Lit.wf] using h
  have h1 : IntKind.u8.min = 0 := by decide
  have h2 : IntKind.u8.max = 255 := by decide
  omega
theorem open_code {H : Type} {enc : TypeId × Value → H} {w : World} {fuel : Nat} {cs : List Value} {x : DataW H × List MemPlace} (h : DataW.trod enc Tryd.prog w 0 (fun _ => true) true fuel 22 cs = some x) :
    ∃ (A : Option Addr) (n c : Nat), cs = [.slice A n c] ∧ n ≤ maxLen ∧ RdC w w.heap.size A n := by
  rcases open_slice1 Tryd.underlying22 (by kernel_rfl) h with ⟨rfl, _⟩ | ⟨a, len, cap, m, n, V, D, Pl, rfl, _, hl, hm, hmm, _, hx⟩
  · exact ⟨none, 0, 0, rfl, by simp [maxLen], fun h => absurd h (by omega)⟩
  · have hlm : len ≤ m := by rw [hmm]; simpa using hl
    refine ⟨some a, len, cap, rfl, by omega, fun hp => ?_⟩
    have hz0 := (hx 0 (by omega)).1
    rw [show a.add 0 = a from rfl] at hz0
    obtain ⟨b, off, rfl⟩ := addr_none hz0
    refine ⟨b, off, rfl, World.block_lt_of_cell? w ⟨b, off, none⟩ hz0, fun i hi => ?_⟩
    obtain ⟨h0, t0⟩ := hx i (by omega)
    obtain ⟨n0, e0, _, hwf⟩ := DataW.trod_int Tryd.underlying5 t0
    simp only [List.cons.injEq, and_true] at e0
    rw [add_plain] at h0
    exact ⟨n0, (u8_in hwf).1, (u8_in hwf).2, by rw [h0, e0]⟩
end Go.Proofs.YtbogagddjkghhaaDoor.V
