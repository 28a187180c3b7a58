/-
  The model's draws of tallies. No statement is proved here.
-/
import Derived.Test.YtaegcdbgnjlbdaaDraw3
set_option linter.unusedVariables false
set_option maxRecDepth 100000
namespace Go.Proofs.Ytaegcdbgnjlbdaa.V
open Go.RowKit Go.Proofs.Ytaegcdbgnjlbdaa.B

theorem rd3_cur {Bd p : Nat} {w w' : World} {B : Option Addr} {us : List B3} (hc : Cur Bd w p) (hr : Rd3 w w.heap.size B us) (hg : w.grownBy w' (some p)) : Rd3 w' w'.heap.size B us :=
  rd3_far hr hg fun b off e h0 => by
    subst e
    obtain ⟨A, n, c, i, hh, kb, _⟩ := hc
    exact rd3_ne kb hr h0
theorem below_cur {w W w' : World} {p : Nat} (hB : Below w.heap.size w W) (hp : w.heap.size ≤ p) (hg : W.grownBy w' (some p)) : Below w.heap.size w w' :=
  hB.grown hg hB.size (fun j hj => by injection hj with hj; omega)
theorem lit2 (W : World) (x y : Int) : Lit1 (W.alloc (.cells #[.int .i64 x, .int .i64 y] 3)) W.heap.size 2 [x, y] := fun k hk => by
  have hb := Blk.new W 3 #[.int .i64 x, .int .i64 y]
  rw [hb.cell]
  match k, hk with
  | 0, _ => rfl
  | 1, _ => rfl
theorem pick2 (Bd p g : Nat) (x y : Int) (w : World) (h : Cur Bd w p) (hcell : Lit1 w g 2 [x, y]) (hg : g ≠ p) :
    Calls Try.prog 39 #[.pointer (some ⟨p, 0, none⟩), .slice (some ⟨g, 0, none⟩) 2 2] w fun e w' => ∃ z : Int, (z = x ∨ z = y) ∧ e = .returned (.int .i64 z) ∧ Cur Bd w' p ∧ w.grownBy w' (some p) := by
  refine (pick_any Bd p g 2 2 [x, y] rfl (by omega) (by omega) w h hcell hg).mono ?_
  rintro e w' ⟨k, hk, rfl, h2⟩
  refine ⟨_, ?_, rfl, h2⟩
  match k, hk with
  | 0, _ => exact .inl rfl
  | 1, _ => exact .inr rfl
/-- A drawn tally and a drawn ballot. -/
def DTA (w : World) (e : Ending) (w' : World) : Prop :=
  ∃ B d us, ∃ a b x : Int, e = .returned (.tuple #[.agg #[.slice B us.length d], .agg #[.int .i64 a, .int .i64 b, .int .i64 x]]) ∧ us.length ≤ 15 ∧ Rd3 w' w'.heap.size B us ∧ -1 ≤ a ∧ a ≤ 7 ∧ 0 ≤ b ∧ b < 3 ∧ 1 ≤ x ∧ x ≤ 3 ∧ Below w.heap.size w w'
/-- On the way: the cursor, the drawn tally. -/
def DS (w : World) (p b1 : Nat) (B : Option Addr) (us : List B3) (W : World) : Prop := Cur w.heap.size W p ∧ OT W 61 b1 B us ∧ p < b1 ∧ Below w.heap.size w W
theorem DS.cu {w W : World} {p b1 : Nat} {B : Option Addr} {us : List B3} (h : DS w p b1 B us W) : Cur w.heap.size W p := h.1
theorem DS.rd {w W : World} {p b1 : Nat} {B : Option Addr} {us : List B3} (h : DS w p b1 B us W) : Rd3 W W.heap.size B us := h.2.1.rd
theorem DS.be {w W : World} {p b1 : Nat} {B : Option Addr} {us : List B3} (h : DS w p b1 B us W) : Below w.heap.size w W := h.2.2.2
theorem DS.cur {w W W' : World} {p b1 : Nat} {B : Option Addr} {us : List B3} (h : DS w p b1 B us W) (hc : Cur w.heap.size W' p) (hg : W.grownBy W' (some p)) : DS w p b1 B us W' :=
  ⟨hc, h.2.1.keep hg (fun g' e e2 => by have := h.2.1.ge g' e; injection e2 with e2; have := h.2.2.1; omega), h.2.2.1, below_cur h.be (cur_lt h.1).2 hg⟩
theorem DS.al {w W : World} {p b1 : Nat} {B : Option Addr} {us : List B3} (h : DS w p b1 B us W) (O : Obj) : DS w p b1 B us (W.alloc O) :=
  ⟨cur_next h.1 ((Below.refl _ _).alloc (Nat.le_refl _) O), h.2.1.up O, h.2.2.1, up_ h.be O⟩
theorem DS.set_ {w W : World} {p b1 o : Nat} {B : Option Addr} {us : List B3} (h : DS w p b1 B us W) (ho : w.heap.size ≤ o) (hp : o ≠ p) (hne : ∀ g', B = some ⟨g', 0, none⟩ → o ≠ g') (i : Nat) (u : Value) : DS w p b1 B us (W.setCell ⟨o, i, none⟩ u) := by
  have hg : W.grownBy (W.setCell ⟨o, i, none⟩ u) (some o) := cgrown_set (cgrown_same _ _)
  exact ⟨cur_keep h.1 hg (fun e => by injection e with e; exact hp e) (fun j hj => by injection hj with hj; omega), h.2.1.keep hg (fun g' e e2 => by injection e2 with e2; exact hne g' e e2), h.2.2.1, Below.setCell h.be ho _⟩
/-- A box of the tally and a box of the ballot, stored at the end. -/
theorem dta_end {w W0 W : World} {p b1 d : Nat} {B : Option Addr} {us : List B3} {a b x : Int} (hs0 : W0.heap.size = w.heap.size + 2) (hB0 : Below w.heap.size w W0) (kT0 : Blk W0 w.heap.size 44 #[.slice none 0 0]) (kB0 : Blk W0 (w.heap.size + 1) 61 #[.int .i64 0, .int .i64 0, .int .i64 0]) (h : DS W0 p b1 B us W) (hb1 : W0.heap.size ≤ b1)
    (hl : us.length ≤ 15) (h1 : -1 ≤ a ∧ a ≤ 7) (h2 : 0 ≤ b ∧ b < 3) (h3 : 1 ≤ x ∧ x ≤ 3) (W' : World) (hW' : W' = ((((W.setCell ⟨w.heap.size, 0, none⟩ (.slice B us.length d)).setCell ⟨w.heap.size + 1, 0, none⟩ (.int .i64 a)).setCell ⟨w.heap.size + 1, 1, none⟩ (.int .i64 b)).setCell ⟨w.heap.size + 1, 2, none⟩ (.int .i64 x)).drew) :
    (∀ i, W'.cell? ⟨w.heap.size, i, none⟩ = (#[.slice B us.length d] : Array Value)[i]?) ∧ (∀ i, W'.cell? ⟨w.heap.size + 1, i, none⟩ = (#[.int .i64 a, .int .i64 b, .int .i64 x] : Array Value)[i]?) ∧ DTA w (.returned (.tuple #[.agg #[.slice B us.length d], .agg #[.int .i64 a, .int .i64 b, .int .i64 x]])) W' := by
  subst hW'
  have kT := kT0.below h.be (by omega)
  have kB := kB0.below h.be (by omega)
  have k1 : Blk (W.setCell ⟨w.heap.size, 0, none⟩ (.slice B us.length d)) w.heap.size 44 #[.slice B us.length d] := kT.set_ 0 _
  have k1a := k1.far (p := ⟨w.heap.size + 1, 0, none⟩) (by show w.heap.size ≠ w.heap.size + 1; omega) (.int .i64 a)
  have k1b := k1a.far (p := ⟨w.heap.size + 1, 1, none⟩) (by show w.heap.size ≠ w.heap.size + 1; omega) (.int .i64 b)
  have k1c := k1b.far (p := ⟨w.heap.size + 1, 2, none⟩) (by show w.heap.size ≠ w.heap.size + 1; omega) (.int .i64 x)
  have k2 := kB.far (p := ⟨w.heap.size, 0, none⟩) (by show w.heap.size + 1 ≠ w.heap.size; omega) (.slice B us.length d)
  generalize hX : W.setCell ⟨w.heap.size, 0, none⟩ (.slice B us.length d) = X at *
  have k2a : Blk (X.setCell ⟨w.heap.size + 1, 0, none⟩ (.int .i64 a)) (w.heap.size + 1) 61 #[.int .i64 a, .int .i64 0, .int .i64 0] := k2.set_ 0 _
  generalize hY : X.setCell ⟨w.heap.size + 1, 0, none⟩ (.int .i64 a) = Y at *
  have k2b : Blk (Y.setCell ⟨w.heap.size + 1, 1, none⟩ (.int .i64 b)) (w.heap.size + 1) 61 #[.int .i64 a, .int .i64 b, .int .i64 0] := k2a.set_ 1 _
  generalize hZ : Y.setCell ⟨w.heap.size + 1, 1, none⟩ (.int .i64 b) = Z at *
  have k2c : Blk (Z.setCell ⟨w.heap.size + 1, 2, none⟩ (.int .i64 x)) (w.heap.size + 1) 61 #[.int .i64 a, .int .i64 b, .int .i64 x] := k2b.set_ 2 _
  have hne1 : ∀ g', B = some ⟨g', 0, none⟩ → w.heap.size ≠ g' := fun g' e => by have := h.2.1.ge g' e; omega
  have hne2 : ∀ g', B = some ⟨g', 0, none⟩ → w.heap.size + 1 ≠ g' := fun g' e => by have := h.2.1.ge g' e; omega
  have hot := h.2.1
  have o1 := hot.set_ (p := ⟨w.heap.size, 0, none⟩) (by show w.heap.size < b1; omega) (.slice B us.length d)
  rw [hX] at o1
  have o2 := o1.set_ (p := ⟨w.heap.size + 1, 0, none⟩) (by show w.heap.size + 1 < b1; omega) (.int .i64 a)
  rw [hY] at o2
  have o3 := o2.set_ (p := ⟨w.heap.size + 1, 1, none⟩) (by show w.heap.size + 1 < b1; omega) (.int .i64 b)
  rw [hZ] at o3
  have o4 := o3.set_ (p := ⟨w.heap.size + 1, 2, none⟩) (by show w.heap.size + 1 < b1; omega) (.int .i64 x)
  have hB : Below w.heap.size w W := hB0.trans (h.be.mono hB0.size)
  have b1 : Below w.heap.size w X := by rw [← hX]; exact Below.setCell hB (Nat.le_refl _) _
  have b2 : Below w.heap.size w Y := by rw [← hY]; exact Below.setCell b1 (by show w.heap.size ≤ w.heap.size + 1; omega) _
  have b3 : Below w.heap.size w Z := by rw [← hZ]; exact Below.setCell b2 (by show w.heap.size ≤ w.heap.size + 1; omega) _
  exact ⟨fun i => k1c.dr.cell i, fun i => k2c.dr.cell i, B, d, us, a, b, x, rfl, hl, o4.rd.dr, h1.1, h1.2, h2.1, h2.2, h3.1, h3.2, (Below.setCell b3 (by show w.heap.size ≤ w.heap.size + 1; omega) _).drew⟩
end Go.Proofs.Ytaegcdbgnjlbdaa.V
