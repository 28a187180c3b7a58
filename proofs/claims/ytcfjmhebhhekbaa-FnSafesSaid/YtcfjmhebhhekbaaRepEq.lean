/-
  The counts over the program's set of reports are the model's counts over the list: plain facts. No statement is proved here.
-/
import Derived.Test.YtcfjmhebhhekbaaImplMeth
set_option linter.unusedVariables false
set_option maxRecDepth 100000
namespace Go.Proofs.Ytcfjmhebhhekbaa.V
open Go.RowKit Go.Proofs.Ytcfjmhebhhekbaa.B

theorem cntS_upd {s : Nat → Option Pp} {j : Nat} {p : Pp} (P : Rp → Bool) (hn : s j = none) : ∀ m, cntS (updS s j p) P m = cntS s P m + (if j < m then (if P p.r then 1 else 0) else 0)
  | 0 => by simp [cntS]
  | m + 1 => by
    have ih := cntS_upd (p := p) P hn m
    unfold cntS
    rw [ih]
    by_cases e : m = j
    · subst e
      rw [if_neg (Nat.lt_irrefl _), if_pos (Nat.lt_succ_self _), hn]
      simp [updS]
    · have h1 : updS s j p m = s m := by simp [updS, e]
      rw [h1]
      by_cases h2 : j < m
      · rw [if_pos h2, if_pos (show j < m + 1 by omega)]; omega
      · rw [if_neg h2, if_neg (show ¬ j < m + 1 by omega)]; omega
theorem cnt_sl {n view : Int} {ps : List Pp} (hn : n ≤ 7) (h : allR n view (rl ps) = true) (P : Rp → Bool) : cntS (sl ps) P 7 = (rl ps).countP P := by
  have key : ∀ k, k ≤ ps.length → cntS (sl (ps.take k)) P 7 = ((rl ps).take k).countP P := by
    intro k
    induction k with
    | zero => intro _; simp [sl, cntS]
    | succ k ih =>
      intro hk
      have hk' : k < ps.length := by omega
      have h1 := in_at h k (by rw [rl_len]; exact hk')
      rw [rl_at] at h1
      have hj : (ps.getD k zP).r.f = (((ps.getD k zP).r.f.toNat : Nat) : Int) := by omega
      have hf := fresh_at h k hk' hj
      rw [sl_step hk' hj hf, cntS_upd P hf, ih (by omega), take_cnt P (rl ps) zR k (by rw [rl_len]; exact hk'), rl_at, if_pos (by omega)]
  have := key ps.length (Nat.le_refl _)
  rw [List.take_length] at this
  rw [this, List.take_of_length_le (by rw [rl_len]; exact Nat.le_refl _)]
theorem unb_eq {n view : Int} {r : Rp} (h : repB n view r = true) : unbL r = freeL r := by
  unfold repB msgOkB at h
  simp only [Bool.and_eq_true, if_true] at h
  have hl := h.2.2.2
  unfold lockOkB valOkB at hl
  unfold unbL bndL freeL
  rw [Bool.eq_iff_iff]
  simp at hl ⊢
  omega
theorem mem_rep {n view : Int} {rs : List Rp} (h : allR n view rs = true) {r : Rp} (hr : r ∈ rs) : repB n view r = true := by
  obtain ⟨i, hi, rfl⟩ := List.mem_iff_getElem.1 hr
  have := rep_at h i hi
  simpa [List.getD_eq_getElem?_getD, List.getElem?_eq_getElem hi] using this
theorem size_le {n : Int} (h : sizeB n = true) : n ≤ 7 := by rcases size_two h with rfl | rfl <;> omega

section
variable {n view : Int} {ps : List Pp} (h : repsOkB n view (rl ps) = true)
include h
theorem all_of : allR n view (rl ps) = true := by unfold repsOkB at h; simp only [Bool.and_eq_true] at h; exact h.1
theorem witS_eq (val u : Int) : witS (sl ps) val u = wit (rl ps) val u := cnt_sl (size_le (reps_size h).1) (all_of h) _
theorem groundsS_eq (val : Int) : groundsS n view (sl ps) val = groundsR n view (rl ps) val := by
  unfold groundsS groundsR
  congr 1
  funext u
  unfold grS groundR
  rw [witS_eq h]
theorem unbS_eq : unbS (sl ps) = unbR (rl ps) := by
  unfold unbS unbR
  rw [cnt_sl (size_le (reps_size h).1) (all_of h)]
  apply List.countP_congr
  intro r hr
  rw [unb_eq (mem_rep (all_of h) hr)]
theorem freeS_eq : freeS n (sl ps) = freeR n (rl ps) := by unfold freeS freeR; rw [unbS_eq h]
theorem supS_eq (val : Int) : supS n view (sl ps) val = supR (groundsR n view (rl ps) val) val (rl ps) := by
  have hg := (last_lo (groundR n (rl ps) val) view.toNat).1
  change -1 ≤ groundsR n view (rl ps) val at hg
  unfold supS
  rw [groundsS_eq h]
  generalize groundsR n view (rl ps) val = u at *
  by_cases hu : u = -1
  · subst hu
    rw [if_pos rfl, unbS_eq h]
    unfold unbR supR
    apply List.countP_congr
    intro r hr
    rw [sup_dec]
    unfold freeL
    simp
  · rw [if_neg hu, cnt_sl (size_le (reps_size h).1) (all_of h)]
    unfold supR
    apply List.countP_congr
    intro r hr
    have hb := unb_eq (mem_rep (all_of h) hr)
    unfold unbL freeL at hb
    unfold supQ
    rw [hb, sup_dec]
    simp
    omega
theorem safeS_eq (val : Int) : safeS n view (sl ps) val = (valOkB val && safeR n view (rl ps) val) := by
  have hg := (last_lo (groundR n (rl ps) val) view.toNat).1
  change -1 ≤ groundsR n view (rl ps) val at hg
  unfold safeS safeR
  rw [freeS_eq h, groundsS_eq h, supS_eq h]
  generalize groundsR n view (rl ps) val = u at *
  congr 2
  rw [Bool.eq_iff_iff]
  simp
  omega
end
end Go.Proofs.Ytcfjmhebhhekbaa.V
