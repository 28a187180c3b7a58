/-
  Plain facts on ballots: how counts, places and views hang together in a valid tally. No statement is proved here.
-/
import Derived.Test.YtfebeafonifpdaaImplAdd
import Derived.Test.YtfebeafonifpdaaImplViews
set_option linter.unusedVariables false
set_option maxRecDepth 100000
namespace Go.Proofs.Ytfebeafonifpdaa.V
open Go.RowKit Go.Proofs.Ytfebeafonifpdaa.B

/-- All ballots of a view. -/
def inView (M : List B3) (view : Int) : List B3 := M.filter fun u => decide (u.2.1 = view)
theorem asc_len : ∀ (l : List Int) (a b : Int), l.Pairwise (· < ·) → (∀ x ∈ l, a ≤ x ∧ x < b) → (l.length : Int) ≤ max (b - a) 0
  | [], a, b, _, _ => by show (0 : Int) ≤ _; omega
  | x :: l, a, b, h, hm => by
    obtain ⟨h1, h2⟩ := List.pairwise_cons.1 h
    have hx := hm x (by simp)
    have := asc_len l (x + 1) b h2 fun y hy => ⟨by have := h1 y hy; omega, (hm y (by simp [hy])).2⟩
    simp only [List.length_cons]
    omega
theorem view_asc {M : List B3} (h : Val3 M) (view : Int) : ((inView M view).map (·.1)).Pairwise (· < ·) := by
  rw [List.pairwise_map]
  have h1 : (inView M view).Pairwise before3 := List.Pairwise.filter _ h.1
  refine List.Pairwise.imp_of_mem (fun {a b} ha hb hab => ?_) h1
  have e1 := of_decide_eq_true (List.mem_filter.1 ha).2
  have e2 := of_decide_eq_true (List.mem_filter.1 hb).2
  unfold before3 at hab
  omega
theorem view_seven {M : List B3} (h : Val3 M) (view : Int) : (inView M view).length ≤ 7 := by
  have := asc_len _ 0 7 (view_asc h view) fun x hx => by
    obtain ⟨u, hu, rfl⟩ := List.mem_map.1 hx
    have hb := h.2 u (List.mem_filter.1 hu).1
    simp only [b3Ok, Bool.and_eq_true, decide_eq_true_eq] at hb
    exact hb.1.1
  rw [List.length_map] at this
  omega
theorem cnt_view (M : List B3) (view val : Int) : cntB M view val ≤ (inView M view).length := by
  unfold cntB inView
  induction M with
  | nil => simp
  | cons a l ih =>
    simp only [List.filter_cons, isAt] at ih ⊢
    by_cases h1 : a.2.1 = view
    · by_cases h2 : a.2.2 = val
      · simp [h1, h2]; exact ih
      · simp [h1, h2]; omega
    · simp [h1]; exact ih
theorem cnt_two {M : List B3} {view x y : Int} (hne : x ≠ y) : cntB M view x + cntB M view y ≤ (inView M view).length := by
  unfold cntB inView
  induction M with
  | nil => simp
  | cons a l ih =>
    simp only [List.filter_cons, isAt] at ih ⊢
    by_cases h1 : a.2.1 = view
    · by_cases h2 : a.2.2 = x
      · have h3 : a.2.2 ≠ y := fun e => hne (h2.symm.trans e)
        simp [h1, h2, hne]; omega
      · by_cases h3 : a.2.2 = y
        · simp [h1, h3, Ne.symm hne]; omega
        · simp [h1, h2, h3]; omega
    · simp [h1]; omega
/-- The counts of the first values, one by one. -/
def sumK (M : List B3) (view : Int) : Nat → Nat
  | 0 => 0
  | k + 1 => sumK M view k + cntB M view ((k : Int) + 1)
theorem sumK_is (M : List B3) (view : Int) : ∀ k, sumK M view k = (M.filter fun u => decide (u.2.1 = view ∧ 1 ≤ u.2.2 ∧ u.2.2 ≤ (k : Int))).length
  | 0 => by
    rw [sumK, eq_comm, List.length_eq_zero_iff, List.filter_eq_nil_iff]
    intro u _
    simp; omega
  | k + 1 => by
    rw [sumK, sumK_is M view k]
    unfold cntB
    induction M with
    | nil => simp
    | cons a l ih =>
      simp only [List.filter_cons, isAt] at ih ⊢
      by_cases h1 : a.2.1 = view
      · by_cases h2 : 1 ≤ a.2.2 ∧ a.2.2 ≤ (k : Int)
        · have h3 : ¬ a.2.2 = (k : Int) + 1 := by omega
          have h4 : 1 ≤ a.2.2 ∧ a.2.2 ≤ ((k + 1 : Nat) : Int) := by omega
          simp [h1, h2, h3] at ih ⊢
          have h5 : a.2.2 ≤ (k : Int) + 1 := by omega
          simp [h5]; omega
        · by_cases h3 : a.2.2 = (k : Int) + 1
          · have h4 : ¬ ((k : Int) + 1 ≤ (k : Int)) := by omega
            have h5 : (1 : Int) ≤ (k : Int) + 1 := by omega
            simp [h1, h3, h4, h5] at ih ⊢; omega
          · have h4 : ¬ (1 ≤ a.2.2 ∧ a.2.2 ≤ (k : Int) + 1) := by omega
            simp [h1, h2, h3, h4] at ih ⊢; omega
      · simp [h1] at ih ⊢; omega
theorem sumK_le {M : List B3} (h : Val3 M) (view : Int) (k : Nat) : sumK M view k ≤ 7 := by
  have h1 := view_seven h view
  rw [sumK_is]
  refine Nat.le_trans ?_ h1
  unfold inView
  rw [show (fun u : B3 => decide (u.2.1 = view ∧ 1 ≤ u.2.2 ∧ u.2.2 ≤ (k : Int))) = fun u => (decide (1 ≤ u.2.2 ∧ u.2.2 ≤ (k : Int))) && decide (u.2.1 = view) from funext fun u => by
    rw [Bool.eq_iff_iff]; simp; omega, ← List.filter_filter]
  exact List.length_filter_le _ _
theorem cnt_ins (M : List B3) (k : Nat) (u : B3) (view val : Int) : cntB (insT M k u) view val = cntB M view val + (if isAt view val u then 1 else 0) := by
  have e : cntB M view val = cntB (M.take k) view val + cntB (M.drop k) view val := by
    unfold cntB
    rw [← List.length_append, ← List.filter_append, List.take_append_drop]
  rw [e]
  unfold insT cntB
  rw [List.filter_append, List.length_append, List.filter_cons]
  split
  · simp; omega
  · simp
/-- What is added to a tally that may be. -/
theorem add_yes {vs : List B3} {u : B3} (h : addQ vs u = true) :
    tallyOkB vs = true ∧ b3Ok u = true ∧ foundQ vs u.2.1 u.1 = false ∧ addU vs u = insT vs (place vs u) u ∧ Val3 (insT vs (place vs u) u) ∧ (insT vs (place vs u) u).length = vs.length + 1 := by
  simp only [addQ, Bool.and_eq_true, Bool.not_eq_true'] at h
  obtain ⟨⟨h1, h2⟩, h3⟩ := h
  have hV := val_of h1
  have h4 : foundQ vs u.2.1 u.1 = false := by rw [← pl_of hV.1]; exact h3
  refine ⟨h1, h2, h4, ?_, insT_val hV h2 h4, ?_⟩
  · simp [addU, h1, h2, h3]
  · have := (place_pl vs u).1
    rw [insT_len _ _ _ this]; omega
theorem add_no {vs : List B3} {u : B3} (h : addQ vs u = false) : addU vs u = [] ∨ addU vs u = vs := by
  unfold addU
  split
  · rename_i h1
    split
    · exact .inr rfl
    · rename_i h2
      simp only [addQ, Bool.and_eq_true] at h h1
      simp [h1.1, h1.2, h2] at h
  · exact .inl rfl
theorem tallyOk_of {vs : List B3} (h : Val3 vs) : tallyOkB vs = true := by
  refine tallyOk_yes fun j hj => ?_
  unfold goodB
  rw [Bool.and_eq_true, Bool.or_eq_true, decide_eq_true_eq, decide_eq_true_eq, getD_eq hj]
  refine ⟨h.2 _ (List.getElem_mem hj), ?_⟩
  rcases j with _ | j
  · exact .inl rfl
  · refine .inr (cmp_lt.2 ?_)
    rw [show j + 1 - 1 = j from rfl, getD_eq (show j < vs.length by omega)]
    exact List.pairwise_iff_getElem.1 h.1 j (j + 1) (by omega) hj (by omega)
theorem told_ins {M : List B3} {u : B3} (h : Val3 M) : u ∈ M → toldQ M u.2.1 u.1 = true ∧ toldR M u.2.1 u.1 = u.2.2 := fun hu => by
  obtain ⟨a, b, c⟩ := u
  have h2 := (found_iff h.1).2 hu
  have h3 := tallyOk_of h
  unfold foundQ foundV at h2
  unfold toldQ toldR
  simp only [h3, Bool.true_and, if_true]
  exact h2
end Go.Proofs.Ytfebeafonifpdaa.V
