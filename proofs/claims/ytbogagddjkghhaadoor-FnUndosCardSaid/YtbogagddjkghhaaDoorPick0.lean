/-
  The cursor's choices. No statement is proved here.
-/
import Derived.Test.YtbogagddjkghhaaDoorCode
set_option linter.unusedVariables false
set_option maxRecDepth 100000
namespace Go.Proofs.YtbogagddjkghhaaDoor.V
open Go.RowKit Go.Proofs.YtbogagddjkghhaaDoor.B
theorem below_i (Bd p : Nat) (N : Int) (h0 : 0 < N) (h1 : N ≤ 256) (w : World) (h : Cur Bd w p) :
    Calls Tryd.prog 53 #[.pointer (some ⟨p, 0, none⟩), .int .i64 N] w fun e w' => ∃ x : Nat, (x : Int) < N ∧ e = .returned (.int .i64 x) ∧ Cur Bd w' p ∧ w.grownBy w' (some p) := by
  obtain ⟨n, rfl⟩ : ∃ n : Nat, N = n := ⟨N.toNat, by omega⟩
  refine (below_any Bd p n (by omega) (by omega) w h).mono ?_
  rintro e w' ⟨x, hx, h2⟩
  exact ⟨x, by omega, h2⟩
theorem pick_any (Bd p g n c : Nat) (xs : List Int) (hn : xs.length = n) (h0 : 0 < n) (h1 : n ≤ 256) (w : World) (h : Cur Bd w p) (hcell : ∀ k, k < n → w.cell? ⟨g, k, none⟩ = some (.int .i64 (xs.getD k 0))) (hg : g ≠ p) :
    Calls Tryd.prog 82 #[.pointer (some ⟨p, 0, none⟩), .slice (some ⟨g, 0, none⟩) n c] w fun e w' => ∃ k, k < n ∧ e = .returned (.int .i64 (xs.getD k 0)) ∧ Cur Bd w' p ∧ w.grownBy w' (some p) := by
  have hgl : g < w.heap.size := World.block_lt_of_cell? w ⟨g, 0, none⟩ (hcell 0 h0)
  go_enter Tryd.func82, Tryd.ntmps82
  go_wp2_with fail
  refine (below_any Bd p n h0 h1 w h).mono ?_
  rintro e w1 ⟨k, hk, rfl, hc1, hg1⟩
  have r1 : w1.cell? ⟨g, k, none⟩ = some (.int .i64 (xs.getD k 0)) := (World.cell?_of_block (a := ⟨g, k, none⟩) (hg1.block g hgl (fun e => by injection e with e; exact hg e))).trans (hcell k hk)
  generalize hx : xs.getD k 0 = x at *
  have HX := Lib.hid hx; clear hx hcell
  have a1 : (0 : Int) ≤ (k : Int) := by omega
  have a2 : (k : Int) < (n : Int) := by omega
  go_wp2
  go_ret
  exact ⟨k, hk, by rw [HX.out]; rfl, hc1, hg1⟩
/-- Block g holds the numbers xs. -/
def Lit1 (W : World) (g n : Nat) (xs : List Int) : Prop := ∀ k, k < n → W.cell? ⟨g, k, none⟩ = some (.int .i64 (xs.getD k 0))
theorem pick_i (Bd p g n c : Nat) (xs : List Int) (hn : xs.length = n) (h0 : 0 < n) (h1 : n ≤ 256) (w : World) (h : Cur Bd w p) (hcell : Lit1 w g n xs) (hg : g ≠ p) :
    Calls Tryd.prog 82 #[.pointer (some ⟨p, 0, none⟩), .slice (some ⟨g, 0, none⟩) n c] w fun e w' => ∃ y : Int, e = .returned (.int .i64 y) ∧ Cur Bd w' p ∧ w.grownBy w' (some p) := by
  refine (pick_any Bd p g n c xs hn h0 h1 w h hcell hg).mono ?_
  rintro e w' ⟨k, _, rfl, h2⟩
  exact ⟨_, rfl, h2⟩
theorem Lit1.al {W : World} {g n : Nat} {xs : List Int} (h : Lit1 W g n xs) (O : Obj) : Lit1 (W.alloc O) g n xs := fun k hk => (World.cell?_alloc_lt W O ⟨g, k, none⟩ (World.block_lt_of_cell? W ⟨g, k, none⟩ (h k hk))).trans (h k hk)
theorem Lit1.dr {W : World} {g n : Nat} {xs : List Int} (h : Lit1 W g n xs) : Lit1 W.drew g n xs := h
theorem Lit1.cu {W W' : World} {g n p : Nat} {xs : List Int} (h : Lit1 W g n xs) (hg : W.grownBy W' (some p)) (hne : g ≠ p) : Lit1 W' g n xs := fun k hk => (World.cell?_of_block (a := ⟨g, k, none⟩) (hg.block g (World.block_lt_of_cell? W ⟨g, k, none⟩ (h k hk)) (fun e => by injection e with e; exact hne e))).trans (h k hk)
theorem lit3 (W : World) (x0 x1 x2 : Int) : Lit1 (W.alloc (.cells #[.int .i64 x0, .int .i64 x1, .int .i64 x2] 3)) W.heap.size 3 [x0, x1, x2] := fun k hk => by
  have hb := Blk.new W 3 #[.int .i64 x0, .int .i64 x1, .int .i64 x2]
  rw [hb.cell]
  match k, hk with
  | 0, _ => rfl
  | 1, _ => rfl
  | 2, _ => rfl
theorem lit4 (W : World) (x0 x1 x2 x3 : Int) : Lit1 (W.alloc (.cells #[.int .i64 x0, .int .i64 x1, .int .i64 x2, .int .i64 x3] 3)) W.heap.size 4 [x0, x1, x2, x3] := fun k hk => by
  have hb := Blk.new W 3 #[.int .i64 x0, .int .i64 x1, .int .i64 x2, .int .i64 x3]
  rw [hb.cell]
  match k, hk with
  | 0, _ => rfl
  | 1, _ => rfl
  | 2, _ => rfl
  | 3, _ => rfl
theorem lit5 (W : World) (x0 x1 x2 x3 x4 : Int) : Lit1 (W.alloc (.cells #[.int .i64 x0, .int .i64 x1, .int .i64 x2, .int .i64 x3, .int .i64 x4] 3)) W.heap.size 5 [x0, x1, x2, x3, x4] := fun k hk => by
  have hb := Blk.new W 3 #[.int .i64 x0, .int .i64 x1, .int .i64 x2, .int .i64 x3, .int .i64 x4]
  rw [hb.cell]
  match k, hk with
  | 0, _ => rfl
  | 1, _ => rfl
  | 2, _ => rfl
  | 3, _ => rfl
  | 4, _ => rfl
/-- Some number of the list, in bounds. -/
theorem pick_b (Bd p g n c : Nat) (xs : List Int) (lo hi : Int) (hb : ∀ x ∈ xs, lo ≤ x ∧ x ≤ hi) (hn : xs.length = n) (h0 : 0 < n) (h1 : n ≤ 256) (w : World) (h : Cur Bd w p) (hcell : Lit1 w g n xs) (hg : g ≠ p) :
    Calls Tryd.prog 82 #[.pointer (some ⟨p, 0, none⟩), .slice (some ⟨g, 0, none⟩) n c] w fun e w' => ∃ y : Int, lo ≤ y ∧ y ≤ hi ∧ e = .returned (.int .i64 y) ∧ Cur Bd w' p ∧ w.grownBy w' (some p) := by
  refine (pick_any Bd p g n c xs hn h0 h1 w h hcell hg).mono ?_
  rintro e w' ⟨k, hk, rfl, h2⟩
  have hm := hb (xs.getD k 0) (by
    rw [List.getD_eq_getElem?_getD, List.getElem?_eq_getElem (by omega)]
    exact List.getElem_mem _)
  exact ⟨_, hm.1, hm.2, rfl, h2⟩
end Go.Proofs.YtbogagddjkghhaaDoor.V
