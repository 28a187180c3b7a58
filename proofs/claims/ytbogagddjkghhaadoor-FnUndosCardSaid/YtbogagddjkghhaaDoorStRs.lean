/-
  StoreRun of the model: contract. No statement is proved here.
-/
import Derived.Test.YtbogagddjkghhaaDoorStR
set_option linter.unusedVariables false
set_option maxRecDepth 100000
namespace Go.Proofs.YtbogagddjkghhaaDoor.V
open Go.RowKit Go.Proofs.YtbogagddjkghhaaDoor.B

/-- What the operations of the literal yield. -/
def LV2 (w0 : World) (p : Nat) (A : Option Addr) (c : Nat) (m m' : Int) (xs : List Int) (j : Nat) (u : Value) (w' : World) : Prop :=
  match j with
  | 0 => ∃ b : Nat, u = .slice (some ⟨b, 0, none⟩) 0 0
  | 1 => u = .pointer (some ⟨p, 0, none⟩)
  | 2 => u = .slice A 4 c
  | 3 => ∃ B d, u = .slice B 4 d ∧ w'.ownsRow w0.heap.size 3 1 (.slice B 4 d) 4 (xs.map (Value.int .i64))
  | 4 => u = .pointer (some ⟨p, 1, none⟩)
  | 5 => u = .int .i64 m
  | 6 => ∃ B d, u = .agg #[.slice B 4 d, .int .i64 m'] ∧ w'.ownsRow w0.heap.size 3 1 (.slice B 4 d) 4 (xs.map (Value.int .i64))
  | 7 => ∃ o, u = .pointer (some ⟨o, 0, none⟩) ∧ w0.heap.size ≤ o ∧ Blk w' o 46 #[.slice none 0 0, .int .i64 0]
  | _ => True
theorem LV2.keep {w0 : World} {p : Nat} {A : Option Addr} {c : Nat} {m m' : Int} {xs : List Int} : ∀ j u w1 w2, LV2 w0 p A c m m' xs j u w1 → Below w1.heap.size w1 w2 → LV2 w0 p A c m m' xs j u w2 := by
  intro j u w1 w2 h hb
  match j, h with
  | 0, h => exact h
  | 1, h => exact h
  | 2, h => exact h
  | 3, h => obtain ⟨B, d, e, ho⟩ := h; exact ⟨B, d, e, own7 ho hb⟩
  | 4, h => exact h
  | 5, h => exact h
  | 6, h => obtain ⟨B, d, e, ho⟩ := h; exact ⟨B, d, e, own7 ho hb⟩
  | 7, h => obtain ⟨o, e, h1, h2⟩ := h; exact ⟨o, e, h1, h2.on hb⟩
  | _ + 8, _ => trivial
def LR2 (w0 : World) (m' : Int) (xs : List Int) (us : Nat → Value) (w' : World) : Prop :=
  ∃ o B d, us 7 = .pointer (some ⟨o, 0, none⟩) ∧ w0.heap.size ≤ o ∧ 4 ≤ d ∧ Blk w' o 46 #[.slice B 4 d, .int .i64 m'] ∧ OI w' 3 w0.heap.size B xs ∧ Below w0.heap.size w0 w'
theorem LR2.mk {w0 wx : World} {m' : Int} {xs : List Int} {us : Nat → Value} {o : Nat} {B : Option Addr} {d : Nat} {v : Value} (hl : xs.length = 4) (e : us 7 = .pointer (some ⟨o, 0, none⟩)) (ho : w0.heap.size ≤ o) (hk : Blk wx o 46 #[.slice none 0 0, .int .i64 0]) (hw : wx.ownsRow w0.heap.size 3 1 (.slice B 4 d) 4 (xs.map (Value.int .i64))) (hB : Below w0.heap.size w0 wx) :
    LR2 w0 m' xs (upd us 8 v) ((wx.setCell ⟨o, 0, none⟩ (.slice B 4 d)).setCell ⟨o, 1, none⟩ (.int .i64 m')) := by
  refine ⟨o, B, d, by rw [upd_ne (by decide)]; exact e, ho, cap7 hw, (hk.set_ 0 _).set_ 1 _, ?_, Below.setCell (Below.setCell hB ho _) ho _⟩
  have h := (OI.of_own (xs := xs) hw).2
  rcases h with ⟨rfl, rfl⟩ | ⟨g, cur, rfl, hg, hb, hp⟩
  · simp at hl
  · have hne : g ≠ o := fun e => by
      subst e
      have h1 := hb.symm.trans hk
      injection h1 with h1
      injection h1 with _ h1
      exact absurd h1 (by decide)
    exact .inr ⟨g, cur, rfl, hg, (hb.far hne _).far hne _, hp⟩

theorem lit7 (W : World) (u : Value) (g : Nat) (hg : W.heap.size = g) : Reads (W.alloc (.cells #[u] 3)) (g + 1) 1 (some ⟨g, 0, none⟩) 1 [u] := by subst hg; exact lit_int W u
theorem l7do_at (A : Option Addr) (c : Nat) (xs : List Int) (m k n : Int) (y : Nat) (w : World) (hr : RdI w w.heap.size A xs) (hl : xs.length = 4) (hy : y < 4) (hk0 : 0 ≤ k) (hk1 : k ≤ 2) (h0 : 0 ≤ n) (h1 : n ≤ 4) (hm0 : 0 ≤ m) (hm1 : m ≤ 999) (hx : 0 ≤ xs.getD y 0 ∧ xs.getD y 0 ≤ 1000) :
    Calls Tryd.prog 100 #[.agg #[.slice A 4 c, .int .i64 m], .agg #[.int .i64 k, .int .i64 (y : Int), .int .i64 n]] w fun e w' => ∃ B d, e = .returned (.tuple #[.agg #[.slice B 4 d, .int .i64 (m + 1)], .int .i64 (xs.getD y 0)]) ∧ OI w' 3 w.heap.size B (doX xs k y n) ∧ Below w.heap.size w w' := by
  have h4 : (doX xs k y n).length = 4 := by rw [doX_len, hl]
  refine (l7do_any A c xs m k n y w hr hl hy hk0 hk1 h0 h1 hm0 hm1 hx).mono ?_
  rintro e w' ⟨B, d, rfl, ho, hb⟩
  exact ⟨B, d, by rw [h4], ho, hb⟩
end Go.Proofs.YtbogagddjkghhaaDoor.V
