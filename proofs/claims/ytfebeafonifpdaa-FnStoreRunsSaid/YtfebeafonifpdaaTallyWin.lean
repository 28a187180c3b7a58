/-
  Winner of the model: its contract. No statement is proved here.
-/
import Derived.Test.YtfebeafonifpdaaTallyTold
set_option linter.unusedVariables false
set_option maxRecDepth 100000
namespace Go.Proofs.Ytfebeafonifpdaa.V
open Go.RowKit Go.Proofs.Ytfebeafonifpdaa.B

/-- The first from k on, of m, at which f holds. -/
def winN (f : Nat → Bool) : Nat → Nat → Option Nat
  | _, 0 => none
  | k, m + 1 => if f k then some k else winN f (k + 1) m
theorem winN_none {f : Nat → Bool} : ∀ {m k : Nat}, (∀ j, k ≤ j → j < k + m → f j = false) → winN f k m = none
  | 0, _, _ => rfl
  | m + 1, k, h => by
    rw [winN, h k (Nat.le_refl _) (by omega)]
    exact winN_none fun j h1 h2 => h j (by omega) (by omega)
theorem winN_some {f : Nat → Bool} : ∀ {m k i : Nat}, k ≤ i → i < k + m → (∀ j, k ≤ j → j < i → f j = false) → f i = true → winN f k m = some i
  | 0, _, _, h1, h2, _, _ => by omega
  | m + 1, k, i, h1, h2, h, hi => by
    by_cases e : k = i
    · subst e
      rw [winN, hi]; rfl
    · rw [winN, h k (Nat.le_refl _) (by omega)]
      exact winN_some (by omega) (by omega) (fun j h3 h4 => h j (by omega) h4) hi
def enough (vs : List B3) (view need : Int) (k : Nat) : Bool := decide (need ≤ (cntB vs view (k : Int) : Int))
def winK (vs : List B3) (view need : Int) : Option Nat := winN (enough vs view need) 1 60
def winV (o : Option Nat) : Int := (o.map fun k => (k : Int)).getD 0

set_option maxHeartbeats 1600000 in
theorem l2winner_any (view need : Int) (A : Option Addr) (c : Nat) (vs : List B3) (w : World) (hr : Rd3 w w.heap.size A vs) (hn : vs.length ≤ 1048576) :
    Calls Try.prog 90 #[.agg #[.slice A vs.length c], .int .i64 view, .int .i64 need] w fun e w' => e = .returned (.tuple #[.int .i64 (winV (winK vs view need)), .bool (winK vs view need).isSome]) ∧ Below w.heap.size w w' := by
  obtain ⟨n, hvn⟩ : ∃ n, vs.length = n := ⟨_, rfl⟩
  have hcnt := fun val W h => l2count_any view val A c vs W h hn
  rw [hvn] at hcnt ⊢
  have HCNT := Lib.hid hcnt; clear hcnt hvn hn
  have HB := Lib.hid (tally_box w A n c)
  have hr0 := hr.up (.cells #[.slice A n c] 96)
  have hs0 : (w.alloc (.cells #[.slice A n c] 96)).heap.size = w.heap.size + 1 := by simp
  have HR : Hid (∀ wr, Below (w.heap.size + 1) (w.alloc (.cells #[.slice A n c] 96)) wr → Rd3 wr wr.heap.size A vs ∧ w.heap.size + 1 ≤ wr.heap.size) := fun wr h => ⟨(hr.below (HB.out wr h).2).more (HB.out wr h).2.size, by have := h.size; omega⟩
  clear hr0 hs0 hr
  go_enter Try.func90, Try.ntmps90
  go_wp2
  go_loopw [8] (fun v wr => ∃ (k : Nat), 1 ≤ k ∧ k ≤ 61 ∧ v = .int .i64 k ∧ Hid (∀ j, 1 ≤ j → j < k → enough vs view need j = false) ∧ Below (w.heap.size + 1) (w.alloc (.cells #[.slice A n c] 96)) wr) (fun v _ => 61 - (intOf v).toNat)
  case atStart => exact ⟨1, Nat.le_refl _, by omega, rfl, fun j h1 h2 => absurd h2 (by omega), Below.refl _ _⟩
  case round =>
    obtain ⟨k, hk1, hk, rfl, hall, hbel⟩ := hrel
    obtain ⟨kb, hbw⟩ := HB.out wr hbel
    obtain ⟨hr1, hsz⟩ := HR.out wr hbel
    have rb := kb.cell 0
    by_cases hlt : k ≤ 60
    · rcases hq : enough vs view need k with _ | _
      · have HQ := Lib.hid hq
        have hd : decide (need ≤ (cntB vs view (k : Int) : Int)) = false := hq
        clear hq
        go_wp2_with fail
        refine (HCNT.out _ _ hr1).mono ?_
        rintro e w1 ⟨rfl, hb1⟩
        go_wp2
        go_roundw
        case rel => exact ⟨k + 1, by omega, by omega, by go_num, fun j h1 h2 => by
          by_cases e : j = k
          · subst e; exact HQ.out
          · exact hall.out j h1 (by omega), hbel.trans (hb1.mono hsz)⟩
        case measure => simp [intOf]; omega
      · have hd : decide (need ≤ (cntB vs view (k : Int) : Int)) = true := hq
        have HW : Hid (winK vs view need = some k) := winN_some hk1 (by omega) hall.out hq
        clear hq
        go_wp2_with fail
        refine (HCNT.out _ _ hr1).mono ?_
        rintro e w1 ⟨rfl, hb1⟩
        go_wp2
        refine bodyPost_ret (v := .tuple #[.int .i64 k, .bool true]) (by simp [results, Try.results90, go_sem]) rfl ?_
        exact ⟨ret_two (by rw [HW.out]; rfl) (by rw [HW.out]; rfl), hbw.trans (hb1.mono hbw.size)⟩
    · have HW : Hid (winK vs view need = none) := winN_none fun j h1 h2 => hall.out j h1 (by omega)
      go_wp2
      refine bodyPost_ret (v := .tuple #[.int .i64 0, .bool false]) (by simp [results, Try.results90, go_sem]) rfl ?_
      exact ⟨ret_two (by rw [HW.out]; rfl) (by rw [HW.out]; rfl), hbw⟩

def winnerK (vs : List B3) (view need : Int) : Option Nat := if tallyOkB vs = true ∧ 1 ≤ need then winK vs view need else none
end Go.Proofs.Ytfebeafonifpdaa.V
