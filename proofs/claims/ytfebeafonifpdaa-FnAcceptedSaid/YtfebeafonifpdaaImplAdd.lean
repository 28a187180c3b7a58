/-
  TallyAdd and Joined of the program: contracts. No statement is proved here.
-/
import Derived.Test.YtfebeafonifpdaaImplTab
import Derived.Test.YtfebeafonifpdaaJoined
set_option linter.unusedVariables false
set_option maxRecDepth 100000
namespace Go.Proofs.Ytfebeafonifpdaa.V
open Go.RowKit Go.Proofs.Ytfebeafonifpdaa.B

/-- A valid tally, said of its ballots. -/
def Val3 (M : List B3) : Prop := M.Pairwise before3 ∧ ∀ u ∈ M, b3Ok u = true
theorem val_of {vs : List B3} (h : tallyOkB vs = true) : Val3 vs := ⟨pair_of h, fun u hu => mem_ok h hu⟩
/-- At every place the same. -/
def Alike (L M : List B3) : Prop := ∀ p q, foundQ L p q = foundQ M p q ∧ foundV L p q = foundV M p q
theorem Alike.refl (L : List B3) : Alike L L := fun _ _ => ⟨rfl, rfl⟩
theorem found_zero {L : List B3} {p q : Int} (h : foundQ L p q = false) : foundV L p q = 0 := by
  have h3 : List.find? (isOf p q) L = none := by simpa [foundQ] using h
  simp [foundV, h3]
theorem tabF_alike {L M : List B3} (h : Alike L M) (v : Int) (j : Nat) : tabF L v j = tabF M v j := by
  unfold tabF
  have e1 : (fun (i : Nat) => foundQ L v (i : Int)) = fun (i : Nat) => foundQ M v (i : Int) := funext fun i => (h v i).1
  have e2 : (fun (i : Nat) => ((i : Int), v, foundV L v (i : Int))) = fun (i : Nat) => ((i : Int), v, foundV M v (i : Int)) := funext fun i => by rw [(h v i).2]
  rw [e1, e2]
theorem tabL_alike {L M : List B3} (h : Alike L M) : tabL L = tabL M := by
  unfold tabL tabV
  have e : (fun (v : Nat) => tabF L (v : Int) 7) = fun (v : Nat) => tabF M (v : Int) 7 := funext fun v => tabF_alike h v 7
  rw [e]
theorem tabF_pair (L : List B3) (v : Int) (j : Nat) : (tabF L v j).Pairwise before3 := by
  unfold tabF
  rw [List.pairwise_map]
  refine List.Pairwise.imp (R := (· < ·)) (fun {a b} h => ?_) (List.Pairwise.filter _ List.pairwise_lt_range)
  unfold before3
  exact .inr ⟨rfl, by simp only; omega⟩
theorem tabF_mem {L : List B3} {v : Int} {j : Nat} {u : B3} (h : u ∈ tabF L v j) : u.2.1 = v := by
  obtain ⟨i, _, rfl⟩ := List.mem_map.1 h
  rfl
theorem tabV_mem {L : List B3} {k : Nat} {u : B3} (h : u ∈ tabV L k) : u.2.1 < k := by
  obtain ⟨v, hv, hu⟩ := List.mem_flatMap.1 h
  have := tabF_mem hu
  have := List.mem_range.1 hv
  omega
theorem tabV_pair (L : List B3) : ∀ k, (tabV L k).Pairwise before3
  | 0 => by simp [tabV]
  | k + 1 => by
    rw [tabV_step, List.pairwise_append]
    refine ⟨tabV_pair L k, tabF_pair _ _ _, fun a ha b hb => .inl ?_⟩
    have := tabV_mem ha
    have := tabF_mem hb
    omega
theorem tabL_self {M : List B3} (h : Val3 M) : tabL M = M := by
  refine eq_sorted before_irr before_tr _ _ (tabV_pair M 10) h.1 fun u => ⟨fun hu => ?_, fun hu => ?_⟩
  · obtain ⟨v, _, hu⟩ := List.mem_flatMap.1 hu
    obtain ⟨i, hi, rfl⟩ := List.mem_map.1 hu
    have := (List.mem_filter.1 hi).2
    exact (found_iff h.1).1 ⟨this, rfl⟩
  · have hb := h.2 u hu
    obtain ⟨a, b, c⟩ := u
    simp [b3Ok, viewB] at hb
    obtain ⟨n, rfl⟩ : ∃ n : Nat, a = n := ⟨a.toNat, by omega⟩
    obtain ⟨m, rfl⟩ : ∃ m : Nat, b = m := ⟨b.toNat, by omega⟩
    obtain ⟨h1, h2⟩ := (found_iff h.1).2 hu
    refine List.mem_flatMap.2 ⟨m, List.mem_range.2 (by omega), List.mem_map.2 ⟨n, List.mem_filter.2 ⟨List.mem_range.2 (by omega), h1⟩, ?_⟩⟩
    rw [h2]

theorem same_cmp {p u : B3} : cmp3 p u = 0 ↔ p.2.1 = u.2.1 ∧ p.1 = u.1 := by
  unfold cmp3
  split
  · split <;> omega
  · split
    · omega
    · split <;> omega
theorem cmp_gt {p u : B3} (h : ¬ cmp3 p u < 0) (h2 : cmp3 p u ≠ 0) : before3 u p := by
  have h3 : ¬ before3 p u := fun h3 => h (cmp_lt.2 h3)
  have h4 : ¬ (p.2.1 = u.2.1 ∧ p.1 = u.1) := fun h4 => h2 (same_cmp.2 h4)
  unfold before3 at *
  omega
theorem pl_of {M : List B3} (h : M.Pairwise before3) (u : B3) : hasB M u (place M u) = foundQ M u.2.1 u.1 := by
  obtain ⟨p1, p2, p3⟩ := place_pl M u
  rcases hf : foundQ M u.2.1 u.1 with _ | _
  · unfold hasB
    rw [Bool.and_eq_false_iff, decide_eq_false_iff_not, decide_eq_false_iff_not]
    by_cases hk : place M u < M.length
    · refine .inr fun h0 => ?_
      obtain ⟨e1, e2⟩ := same_cmp.1 h0
      rw [getD_eq hk] at e1 e2
      have hm : M[place M u] ∈ M := List.getElem_mem hk
      generalize M[place M u] = v at *
      obtain ⟨a, b, c⟩ := v
      simp only at e1 e2
      subst e1 e2
      exact found_not.1 hf c hm
    · exact .inl hk
  · have hm := (found_iff h).1 ⟨hf, rfl⟩
    obtain ⟨i, hi, he⟩ := List.mem_iff_getElem.1 hm
    have hc : cmp3 (M.getD i z3) u = 0 := by rw [getD_eq hi, he]; exact same_cmp.2 ⟨rfl, rfl⟩
    have hki : place M u ≤ i := by
      rcases Nat.lt_or_ge i (place M u) with hlt | hge
      · have := p2 i hlt; omega
      · exact hge
    have hk : place M u < M.length := by omega
    have hkc : cmp3 (M.getD (place M u) z3) u = 0 := by
      by_cases e : place M u = i
      · rw [e]; exact hc
      · have hb := List.pairwise_iff_getElem.1 h (place M u) i hk hi (by omega)
        rw [he] at hb
        have := p3 hk
        refine absurd (cmp_lt.2 ?_) this
        rw [getD_eq hk]
        unfold before3 at *
        exact hb
    unfold hasB
    rw [hkc]
    simp [hk]
theorem insT_mem {M : List B3} {k : Nat} {u v : B3} : v ∈ insT M k u ↔ v ∈ M ∨ v = u := by
  unfold insT
  rw [List.mem_append, List.mem_cons]
  constructor
  · rintro (h | h | h)
    · exact .inl (List.mem_of_mem_take h)
    · exact .inr h
    · exact .inl (List.mem_of_mem_drop h)
  · rintro (h | h)
    · rw [← List.take_append_drop k M, List.mem_append] at h
      rcases h with h | h
      · exact .inl h
      · exact .inr (.inr h)
    · exact .inr (.inl h)
theorem insT_val {M : List B3} {u : B3} (h : Val3 M) (hu : b3Ok u = true) (hno : foundQ M u.2.1 u.1 = false) : Val3 (insT M (place M u) u) := by
  obtain ⟨p1, p2, p3⟩ := place_pl M u
  have hp := List.pairwise_iff_getElem.1 h.1
  have hno2 : ∀ i (hi : i < M.length), cmp3 M[i] u ≠ 0 := fun i hi h0 => by
    obtain ⟨e1, e2⟩ := same_cmp.1 h0
    have hm : M[i] ∈ M := List.getElem_mem hi
    generalize M[i] = v at *
    obtain ⟨a, b, c⟩ := v
    simp only at e1 e2
    subst e1 e2
    exact found_not.1 hno c hm
  have hlo : ∀ v ∈ M.take (place M u), before3 v u := fun v hv => by
    obtain ⟨i, hi, rfl⟩ := List.mem_take_iff_getElem.1 hv
    have := p2 i (by omega)
    rw [getD_eq (by omega)] at this
    exact cmp_lt.1 this
  have hhi : ∀ v ∈ M.drop (place M u), before3 u v := fun v hv => by
    obtain ⟨i, hi, rfl⟩ := List.mem_drop_iff_getElem.1 hv
    have hk : place M u < M.length := by omega
    have h1 := p3 hk
    rw [getD_eq hk] at h1
    have h2 := cmp_gt h1 (hno2 _ hk)
    by_cases e : i = 0
    · subst e; simpa using h2
    · exact before_tr _ _ _ h2 (hp _ _ hk (by omega) (by omega))
  refine ⟨?_, fun v hv => ?_⟩
  · unfold insT
    rw [List.pairwise_append, List.pairwise_cons]
    refine ⟨h.1.sublist (List.take_sublist _ _), ⟨hhi, h.1.sublist (List.drop_sublist _ _)⟩, fun a ha b hb => ?_⟩
    rcases List.mem_cons.1 hb with rfl | hb
    · exact hlo a ha
    · exact before_tr _ _ _ (hlo a ha) (hhi b hb)
  · rcases insT_mem.1 hv with hv | rfl
    · exact h.2 v hv
    · exact hu
theorem addT_val {M : List B3} {u : B3} (h : Val3 M) (hu : b3Ok u = true) : Val3 (addT M u) := by
  unfold addT
  rw [pl_of h.1]
  rcases hf : foundQ M u.2.1 u.1 with _ | _
  · simpa using insT_val h hu hf
  · simpa using h
theorem put_alike {L M : List B3} {u : B3} (hA : Alike L M) (h : Val3 M) (hu : b3Ok u = true) : Alike (putL L u) (addT M u) := by
  have hV := addT_val h hu
  unfold putL addT at *
  rw [pl_of h.1] at *
  rw [(hA u.2.1 u.1).1]
  rcases hf : foundQ M u.2.1 u.1 with _ | _
  · simp only [hf, Bool.false_eq_true, if_false] at hV ⊢
    have hfL : foundQ L u.2.1 u.1 = false := by rw [(hA _ _).1, hf]
    intro p q
    rcases hi : isOf p q u with _ | _
    · obtain ⟨a1, a2⟩ := hA p q
      have e1 : foundQ (L ++ [u]) p q = foundQ L p q := by rw [found_app, hi, Bool.or_false]
      rcases hfp : foundQ M p q with _ | _
      · have e2 : foundQ (insT M (place M u) u) p q = false := found_not.2 fun x hx => by
          rcases insT_mem.1 hx with hx | hx
          · exact found_not.1 hfp x hx
          · rw [← hx] at hi; simp [isOf] at hi
        have e3 : foundQ (L ++ [u]) p q = false := by rw [e1, a1, hfp]
        exact ⟨by rw [e3, e2], by rw [found_zero e3, found_zero e2]⟩
      · have hm := insT_mem (k := place M u) (u := u) |>.2 (.inl ((found_iff h.1).1 ⟨hfp, rfl⟩))
        obtain ⟨e2, e3⟩ := (found_iff hV.1).2 hm
        exact ⟨by rw [e1, a1, hfp, e2], by rw [found_app_old (by rw [a1, hfp]), a2, e3]⟩
    · have hpq : p = u.2.1 ∧ q = u.1 := by
        simp only [isOf, decide_eq_true_eq] at hi
        exact ⟨hi.1.symm, hi.2.symm⟩
      obtain ⟨rfl, rfl⟩ := hpq
      have hm : (u.1, u.2.1, u.2.2) ∈ insT M (place M u) u := insT_mem.2 (.inr rfl)
      obtain ⟨e2, e3⟩ := (found_iff hV.1).2 hm
      exact ⟨by rw [found_app, hi, Bool.or_true, e2], by rw [found_app_new hfL hi, e3]⟩
  · simpa using hA
theorem put_len (L : List B3) (u : B3) : (putL L u).length ≤ L.length + 1 := by
  unfold putL
  split <;> simp

/-- What the map holds behind the first i ballots of us. -/
def putK (vs us : List B3) (i : Nat) : List B3 := (us.take i).foldl putL vs
theorem putK_step (vs us : List B3) (i : Nat) (h : i < us.length) : putK vs us (i + 1) = putL (putK vs us i) (us.getD i z3) := by
  unfold putK
  rw [take_get us z3 i h, List.foldl_append]; rfl
theorem putK_len (vs us : List B3) : ∀ i, i ≤ us.length → (putK vs us i).length ≤ vs.length + i
  | 0, _ => by simp [putK]
  | i + 1, h => by
    rw [putK_step vs us i (by omega)]
    have h1 := put_len (putK vs us i) (us.getD i z3)
    have h2 := putK_len vs us i (by omega)
    omega
theorem putK_alike {vs us : List B3} (h1 : tallyOkB vs = true) (h2 : tallyOkB us = true) : ∀ i, i ≤ us.length → Alike (putK vs us i) (joinK vs us i) ∧ Val3 (joinK vs us i)
  | 0, _ => by simpa [putK, joinK] using ⟨Alike.refl vs, val_of h1⟩
  | i + 1, h => by
    obtain ⟨a, b⟩ := putK_alike h1 h2 i (by omega)
    rw [putK_step vs us i (by omega), joinK_step vs us i (by omega)]
    have ho := ok_of h2 i (by omega)
    exact ⟨put_alike a b ho, addT_val b ho⟩
end Go.Proofs.Ytfebeafonifpdaa.V
