/-
  A report inserted: what stays valid, and what stays safe. No statement is proved here.
-/
import Derived.Test.YtcfjmhebhhekbaaRSpec
import Derived.Test.YtcfjmhebhhekbaaSafeMath
import Derived.Test.YtcfjmhebhhekbaaDraws3
set_option linter.unusedVariables false
set_option maxRecDepth 100000
namespace Go.Proofs.Ytcfjmhebhhekbaa.V
open Go.RowKit Go.Proofs.Ytcfjmhebhhekbaa.B

theorem add_cases (n view : Int) (rs : List Rp) (r : Rp) (hl : repsOkB n view rs = true → ∀ ps : List Pp, rl ps = rs → ∃ k, k ≤ rs.length ∧ k = placeX rs r.f) :
    ((addT n view rs r).2 = false ∧ ((addT n view rs r).1 = [] ∨ (addT n view rs r).1 = rs)) ∨ ((addT n view rs r).2 = true ∧ (addT n view rs r).1 = insX rs (placeX rs r.f) r ∧ repsOkB n view rs = true ∧ repB n view r = true ∧ hasX rs r.f (placeX rs r.f) = false) := by
  unfold addT
  split
  · rename_i h
    simp only [Bool.and_eq_true] at h
    rcases hx : hasX rs r.f (placeX rs r.f) with _ | _
    · exact .inr ⟨rfl, rfl, h.1, h.2, rfl⟩
    · exact .inl ⟨rfl, .inr rfl⟩
  · exact .inl ⟨rfl, .inl rfl⟩
theorem all_of_asc {n view : Int} {rs : List Rp} (h1 : ∀ r ∈ rs, repB n view r = true) (h2 : rs.Pairwise fun a b => a.f < b.f) : allR n view rs = true := by
  unfold allR
  rw [List.all_eq_true]
  intro i hi
  have hi := List.mem_range.1 hi
  unfold goodR
  rw [h1 _ (getDR_mem hi), Bool.true_and, Bool.or_eq_true]
  by_cases h0 : i = 0
  · exact .inl (by simp [h0])
  · refine .inr (decide_eq_true ?_)
    have := List.pairwise_iff_getElem.1 h2 (i - 1) i (by omega) hi (by omega)
    simpa [List.getD_eq_getElem?_getD, List.getElem?_eq_getElem hi, List.getElem?_eq_getElem (show i - 1 < rs.length by omega)] using this
theorem placeX_le : ∀ (rs : List Rp) (f : Int), placeX rs f ≤ rs.length
  | [], _ => Nat.le_refl _
  | p :: ps, f => by
    unfold placeX
    split
    · have := placeX_le ps f; simp; omega
    · simp
theorem ins_ok {n view : Int} {ps : List Pp} {p : Pp} (hq : repsOkB n view (rl ps) = true) (hr : repB n view p.r = true) (hx : hasX (rl ps) p.r.f (placeX (rl ps) p.r.f) = false) : repsOkB n view (insX (rl ps) (placeX (rl ps) p.r.f) p.r) = true := by
  have hq0 := hq
  have hall : allR n view (rl ps) = true := by unfold repsOkB at hq; simp only [Bool.and_eq_true] at hq; exact hq.1
  have hf : 0 ≤ p.r.f ∧ p.r.f < n := by
    have h := hr
    unfold repB inB at h
    simp only [Bool.and_eq_true, decide_eq_true_eq] at h
    exact h.1
  obtain ⟨j, hj⟩ : ∃ j : Nat, p.r.f = (j : Int) := ⟨p.r.f.toNat, by omega⟩
  have hasc := asc_of hall
  have hs : sl ps j = none := by
    rw [← placeR_rl, ← hasF_rl, has_sl hj ps hasc] at hx
    simpa using hx
  have hia := ins_asc hj ps hasc hs
  rw [← placeR_rl, ← insR_rl]
  unfold repsOkB at hq0 ⊢
  simp only [Bool.and_eq_true] at hq0 ⊢
  refine ⟨all_of_asc (fun r hr' => ?_) ?_, hq0.2⟩
  · obtain ⟨u, hu, rfl⟩ := List.mem_map.1 hr'
    rcases insR_mem hu with rfl | hu
    · exact hr
    · exact reps_rep hq _ (List.mem_map.2 ⟨u, hu, rfl⟩)
  · exact List.pairwise_map.2 hia

theorem insX_cnt (P : Rp → Bool) (rs : List Rp) (k : Nat) (r : Rp) : rs.countP P ≤ (insX rs k r).countP P := by
  have h : rs.countP P = (rs.take k).countP P + (rs.drop k).countP P := by rw [← List.countP_append, List.take_append_drop]
  rw [insX, List.countP_append, List.countP_cons, h]
  omega
theorem last_mono {f g : Int → Bool} (h : ∀ i, f i = true → g i = true) : ∀ k, last f k ≤ last g k
  | 0 => Int.le_refl _
  | k + 1 => by
    have ih := last_mono h k
    have hb := last_lo f k
    unfold last
    by_cases hf : f k = true
    · rw [if_pos hf, if_pos (h _ hf)]; exact Int.le_refl _
    · rw [if_neg hf]
      split
      · omega
      · exact ih
/-- What is safe stays safe when a report is added. -/
theorem safe_ins (n view val : Int) (rs : List Rp) (k : Nat) (r : Rp) (h : safeR n view rs val = true) : safeR n view (insX rs k r) val = true := by
  unfold safeR at h ⊢
  simp only [Bool.or_eq_true, Bool.and_eq_true, decide_eq_true_eq, freeR] at h ⊢
  have hu := insX_cnt freeL rs k r
  have hg : groundsR n view rs val ≤ groundsR n view (insX rs k r) val := last_mono (fun i hi => by
    unfold groundR at hi ⊢
    simp only [decide_eq_true_eq] at hi ⊢
    have := insX_cnt (hasV val i) rs k r
    unfold wit at *
    omega) _
  rcases h with h | ⟨h1, h2⟩
  · left; unfold unbR at *; omega
  · right
    refine ⟨by omega, ?_⟩
    have h3 : supR (groundsR n view rs val) val rs ≤ supR (groundsR n view (insX rs k r) val) val rs := List.countP_mono_left fun x _ hx => by
      simp only [supL, Bool.or_eq_true, Bool.and_eq_true, decide_eq_true_eq] at hx ⊢
      rcases hx with hx | ⟨_, hx | hx⟩
      · exact .inl hx
      · exact .inr ⟨by omega, .inl (by omega)⟩
      · exact .inr ⟨by omega, .inr hx⟩
    have h4 := insX_cnt (supL (groundsR n view (insX rs k r) val) val) rs k r
    unfold supR at *
    omega
theorem ins_few {n view : Int} {ps ys : List Pp} {k : Nat} {r : Rp} (hok : Ok3 n view ps) (hr : r.vs.length ≤ 10) (hy : rl ys = insX (rl ps) k r) : Few ys := by
  have hl : ys.length ≤ 12 := by
    have h1 : (rl ys).length ≤ (rl ps).length + 1 := by rw [hy]; simp [insX]; omega
    rw [rl_len, rl_len] at h1
    have := hok.2.2.2.2.1
    omega
  refine ⟨by omega, fun i hi => ?_⟩
  have hm : (rl ys).getD i zR ∈ insX (rl ps) k r := by rw [← hy]; exact getDR_mem (by rw [rl_len]; exact hi)
  rw [rl_at] at hm
  simp only [insX, List.mem_append, List.mem_cons] at hm
  have hsm : ∀ y ∈ rl ps, y.vs.length ≤ 1048576 := fun y hy => by
    obtain ⟨u, hu, rfl⟩ := List.mem_map.1 hy
    have := hok.2.2.2.2.2 u hu
    omega
  rcases hm with hm | hm | hm
  · exact hsm _ (List.mem_of_mem_take hm)
  · rw [hm]; omega
  · exact hsm _ (List.mem_of_mem_drop hm)
end Go.Proofs.Ytcfjmhebhhekbaa.V
