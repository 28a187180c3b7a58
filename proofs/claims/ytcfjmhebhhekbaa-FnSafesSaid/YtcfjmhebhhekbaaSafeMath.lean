/-
  What holds between witnesses, grounds, support and safety. No statement is proved here.
-/
import Derived.Test.YtcfjmhebhhekbaaSpecTop
set_option linter.unusedVariables false
set_option maxRecDepth 100000
namespace Go.Proofs.Ytcfjmhebhhekbaa.V
open Go.RowKit Go.Proofs.Ytcfjmhebhhekbaa.B

theorem getDR_mem {rs : List Rp} {i : Nat} (hi : i < rs.length) : rs.getD i zR ∈ rs := by
  rw [List.getD_eq_getElem?_getD, List.getElem?_eq_getElem hi]
  exact List.getElem_mem hi
theorem mem_getDR {rs : List Rp} {p : Rp} (h : p ∈ rs) : ∃ i, i < rs.length ∧ rs.getD i zR = p := by
  obtain ⟨i, hi, e⟩ := List.mem_iff_getElem.1 h
  exact ⟨i, hi, by rw [List.getD_eq_getElem?_getD, List.getElem?_eq_getElem hi]; exact e⟩
theorem reps_good {n view : Int} {rs : List Rp} (h : repsOkB n view rs = true) (i : Nat) (hi : i < rs.length) : goodR n view rs i = true := by
  simp only [repsOkB, Bool.and_eq_true] at h
  have h1 := h.1
  unfold allR at h1
  rw [List.all_eq_true] at h1
  exact h1 i (List.mem_range.2 hi)
theorem reps_rep {n view : Int} {rs : List Rp} (h : repsOkB n view rs = true) (r : Rp) (hr : r ∈ rs) : repB n view r = true := by
  obtain ⟨i, hi, rfl⟩ := mem_getDR hr
  have := reps_good h i hi
  simp only [goodR, Bool.and_eq_true] at this
  exact this.1
theorem rep_votes {n view : Int} {r : Rp} (h : repB n view r = true) : ∀ p ∈ r.vs, p.1 < view := by
  intro p hp
  simp only [repB, msgOkB, Bool.and_eq_true] at h
  have h2 := h.2.2
  simp only [if_true, Bool.and_eq_true] at h2
  have hv := h2.1.2
  unfold votesOkB at hv
  rw [List.all_eq_true] at hv
  obtain ⟨i, hi, e⟩ := List.mem_iff_getElem.1 hp
  have hg := hv i (List.mem_range.2 hi)
  simp only [goodAt, Bool.and_eq_true, decide_eq_true_eq] at hg
  have hd : r.vs.getD i (0, 0) = p := by rw [List.getD_eq_getElem?_getD, List.getElem?_eq_getElem hi]; exact e
  rw [hd] at hg
  exact hg.1.2
theorem hasV_le {val a b : Int} (h : a ≤ b) {r : Rp} (hb : hasV val b r = true) : hasV val a r = true := by
  unfold hasV at *
  rw [List.any_eq_true] at *
  obtain ⟨p, hp, h1⟩ := hb
  simp only [Bool.and_eq_true, decide_eq_true_eq] at h1 ⊢
  exact ⟨p, hp, h1.1, by omega⟩
theorem wit_down (rs : List Rp) (val : Int) {a b : Int} (h : a ≤ b) : wit rs val b ≤ wit rs val a := List.countP_mono_left fun r _ hr => hasV_le h hr
theorem last_ok (ok : Int → Bool) : ∀ k : Nat, last ok k = -1 ∨ ok (last ok k) = true
  | 0 => .inl rfl
  | k + 1 => by
    unfold last
    split
    · rename_i h; exact .inr h
    · exact last_ok ok k
theorem last_none (ok : Int → Bool) : ∀ (k j : Nat), j < k → last ok k < j → ok j = false
  | k + 1, j, hj, hl => by
    unfold last at hl
    split at hl
    · omega
    · rename_i h
      by_cases e : j = k
      · subst e; simpa using h
      · exact last_none ok k j (by omega) hl
theorem weak_gt {n : Int} (h : sizeB n = true) : 0 < weakR n := by
  unfold weakR
  rw [if_pos h]
  rcases size_two h with rfl | rfl <;> decide
theorem wit_facts {n view : Int} {rs : List Rp} (hq : repsOkB n view rs = true) (val from_ : Int) :
    wit rs val (from_ + 1) ≤ wit rs val from_ ∧ wit rs val from_ ≤ rs.length ∧ groundsR n view rs val < view ∧ -1 ≤ groundsR n view rs val ∧ (0 ≤ groundsR n view rs val → weakR n ≤ (wit rs val (groundsR n view rs val) : Int)) ∧ (wit rs val (groundsR n view rs val + 1) : Int) < weakR n := by
  obtain ⟨hs, hv⟩ := reps_size hq
  have hv1 : 1 ≤ view := by simp only [viewR, decide_eq_true_eq] at hv; exact hv.1
  have hlo := last_lo (groundR n rs val) view.toNat
  have hlo1 : -1 ≤ groundsR n view rs val := hlo.1
  have hlo2 : groundsR n view rs val < (view.toNat : Int) := hlo.2
  refine ⟨wit_down rs val (by omega), List.countP_le_length, by omega, hlo1, fun h0 => ?_, ?_⟩
  · rcases last_ok (groundR n rs val) view.toNat with h | h
    · have : groundsR n view rs val = -1 := h
      omega
    · simpa [groundR, groundsR] using h
  · by_cases h1 : groundsR n view rs val + 1 < view
    · have hj := last_none (groundR n rs val) view.toNat (groundsR n view rs val + 1).toNat (by omega) (by show groundsR n view rs val < _; omega)
      have e : (((groundsR n view rs val + 1).toNat : Nat) : Int) = groundsR n view rs val + 1 := by omega
      rw [e] at hj
      simpa [groundR] using hj
    · have e : groundsR n view rs val + 1 = view := by omega
      have hz : wit rs val view = 0 := by
        unfold wit
        rw [List.countP_eq_zero]
        intro r hr
        have := rep_votes (reps_rep hq r hr)
        simp only [hasV, List.any_eq_true, Bool.and_eq_true, decide_eq_true_eq, not_exists, not_and]
        intro p hp h2
        have := this p hp
        omega
      rw [e, hz]
      exact weak_gt hs
theorem best_ok (g : Int → Int) (ok : Int → Bool) : ∀ k : Nat, (best g ok k).1 = 0 ∨ (1 ≤ (best g ok k).1 ∧ (best g ok k).1 ≤ k ∧ ok (best g ok k).1 = true)
  | 0 => .inl rfl
  | k + 1 => by
    unfold best
    split
    · rename_i h
      simp only [Bool.and_eq_true] at h
      exact .inr ⟨by show (1 : Int) ≤ ((k + 1 : Nat) : Int); omega, Int.le_refl _, h.2⟩
    · rcases best_ok g ok k with h | ⟨h1, h2, h3⟩
      · exact .inl h
      · exact .inr ⟨h1, by omega, h3⟩
theorem choose_facts (n view own : Int) (rs : List Rp) : ((chooseT n view rs own).2 = false ∧ (chooseT n view rs own).1 = 0) ∨ ((chooseT n view rs own).2 = true ∧ safeT n view rs (chooseT n view rs own).1 = true ∧ (freeT n view rs = false ∨ (chooseT n view rs own).1 = own)) := by
  unfold chooseT
  rcases hq : repsOkB n view rs with _ | _
  · exact .inl ⟨rfl, rfl⟩
  rcases ho : valOkB own with _ | _
  · exact .inl ⟨rfl, rfl⟩
  simp only [Bool.and_self, if_true, chooseR]
  rcases hf : freeR n rs with _ | _
  · simp only [Bool.false_eq_true, if_false]
    rcases best_ok (groundsR n view rs) (safeR n view rs) 60 with h | ⟨h1, h2, h3⟩
    · exact .inl ⟨by simp [h], h⟩
    · refine .inr ⟨by simp; omega, ?_, .inl (by simp [freeT, hf])⟩
      have hv : valOkB (best (groundsR n view rs) (safeR n view rs) 60).1 = true := by simp only [valOkB, decide_eq_true_eq]; exact ⟨h1, h2⟩
      simp [safeT, hq, hv, h3]
  · simp only [if_true]
    exact .inr ⟨by simp, by simp [safeT, hq, ho, safeR, hf], .inr (by simp)⟩
theorem sup_facts {n view : Int} {rs : List Rp} (val : Int) : unbR rs ≤ supR (groundsR n view rs val) val rs ∧ supR (groundsR n view rs val) val rs ≤ rs.length ∧ (safeR n view rs val = true → strongR n ≤ (supR (groundsR n view rs val) val rs : Int)) := by
  have h1 : unbR rs ≤ supR (groundsR n view rs val) val rs := List.countP_mono_left fun r _ hr => by
    simp only [freeL, decide_eq_true_eq] at hr
    simp [supL, hr]
  refine ⟨h1, List.countP_le_length, fun hs => ?_⟩
  simp only [safeR, Bool.or_eq_true, Bool.and_eq_true, decide_eq_true_eq, freeR] at hs
  rcases hs with h | h
  · omega
  · exact h.2
end Go.Proofs.Ytcfjmhebhhekbaa.V
