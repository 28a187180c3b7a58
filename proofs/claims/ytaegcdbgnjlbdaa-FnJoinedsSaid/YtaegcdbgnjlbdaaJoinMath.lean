/-
  What a joined tally holds. No statement is proved here.
-/
import Derived.Test.YtaegcdbgnjlbdaaTalMath
import Derived.Test.YtaegcdbgnjlbdaaImplAdd
set_option linter.unusedVariables false
set_option maxRecDepth 100000
namespace Go.Proofs.Ytaegcdbgnjlbdaa.V
open Go.RowKit Go.Proofs.Ytaegcdbgnjlbdaa.B

theorem addT_keep {M : List B3} {u v : B3} (h : v ∈ M) : v ∈ addT M u := by
  unfold addT
  split
  · exact h
  · exact insT_mem.2 (.inl h)
theorem foldT_val : ∀ {us vs : List B3}, Val3 vs → (∀ u ∈ us, b3Ok u = true) → Val3 (us.foldl addT vs)
  | [], _, h, _ => h
  | u :: us, vs, h, ho => foldT_val (us := us) (addT_val h (ho u List.mem_cons_self)) fun v hv => ho v (List.mem_cons_of_mem _ hv)
theorem foldT_keep {v : B3} : ∀ {us vs : List B3}, v ∈ vs → v ∈ us.foldl addT vs
  | [], _, h => h
  | u :: us, vs, h => foldT_keep (us := us) (addT_keep h)
theorem found_keep {M N : List B3} (hM : Val3 M) (hN : Val3 N) (hs : ∀ v ∈ M, v ∈ N) {p q : Int} (h : foundQ M p q = true) : foundQ N p q = true :=
  ((found_iff hN.1).2 (hs _ ((found_iff hM.1).1 ⟨h, rfl⟩))).1
theorem addT_found {M : List B3} {u : B3} (h : Val3 M) (hu : b3Ok u = true) : foundQ (addT M u) u.2.1 u.1 = true := by
  have hv := addT_val h hu
  rcases hf : foundQ M u.2.1 u.1 with _ | _
  · refine ((found_iff hv.1).2 (?_ : (u.1, u.2.1, u.2.2) ∈ addT M u)).1
    unfold addT
    rw [pl_of h.1, hf]
    exact insT_mem.2 (.inr rfl)
  · exact found_keep h hv (fun v hv => addT_keep hv) hf
theorem foldT_found {v : B3} : ∀ {us vs : List B3}, Val3 vs → (∀ u ∈ us, b3Ok u = true) → v ∈ us → foundQ (us.foldl addT vs) v.2.1 v.1 = true
  | [], _, _, _, h => absurd h List.not_mem_nil
  | u :: us, vs, h, ho, hm => by
    have h1 := addT_val h (ho u List.mem_cons_self)
    have ho' := fun v hv => ho v (List.mem_cons_of_mem u hv)
    rcases List.mem_cons.1 hm with rfl | hm
    · exact found_keep h1 (foldT_val h1 ho') (fun _ hx => foldT_keep hx) (addT_found h (ho _ List.mem_cons_self))
    · exact foldT_found (us := us) h1 ho' hm
theorem addT_self {M : List B3} {u : B3} (h : Val3 M) (hu : u ∈ M) : addT M u = M := by
  unfold addT
  rw [pl_of h.1, ((found_iff h.1).2 (show (u.1, u.2.1, u.2.2) ∈ M from hu)).1]
  rfl
theorem foldT_self {M : List B3} (h : Val3 M) : ∀ {us : List B3}, (∀ u ∈ us, u ∈ M) → us.foldl addT M = M
  | [], _ => rfl
  | u :: us, hs => by
    rw [List.foldl_cons, addT_self h (hs u List.mem_cons_self)]
    exact foldT_self h fun v hv => hs v (List.mem_cons_of_mem _ hv)
theorem join_facts {vs us : List B3} (h1 : tallyOkB vs = true) (h2 : tallyOkB us = true) :
    tallyOkB (joinU vs us) = true ∧ (joinU vs us).length ≤ vs.length + us.length ∧
    (∀ u ∈ vs, toldQ (joinU vs us) u.2.1 u.1 = true ∧ toldR (joinU vs us) u.2.1 u.1 = u.2.2) ∧ (∀ u ∈ us, toldQ (joinU vs us) u.2.1 u.1 = true) ∧
    joinQ (joinU vs us) (joinU vs us) = true ∧ joinU (joinU vs us) (joinU vs us) = joinU vs us := by
  have e : joinU vs us = us.foldl addT vs := by unfold joinU joinQ; rw [h1, h2]; rfl
  have hv := val_of h1
  have ho : ∀ u ∈ us, b3Ok u = true := fun u hu => mem_ok h2 hu
  have hX : Val3 (joinU vs us) := by rw [e]; exact foldT_val hv ho
  have hq := tallyOk_of hX
  have hj : joinQ (joinU vs us) (joinU vs us) = true := by unfold joinQ; rw [hq]; rfl
  refine ⟨hq, ?_, fun u hu => told_ins hX (by rw [e]; exact foldT_keep hu), fun u hu => ?_, hj, ?_⟩
  · have := joinK_len vs us us.length (Nat.le_refl _)
    rw [joinK_all] at this
    rw [e]; exact this
  · have := foldT_found (vs := vs) hv ho hu
    rw [← e] at this
    unfold toldQ
    rw [hq]
    unfold foundQ at this
    rw [this]; rfl
  · generalize joinU vs us = X at *
    unfold joinU
    rw [hj, if_pos rfl]
    exact foldT_self hX fun u hu => hu
end Go.Proofs.Ytaegcdbgnjlbdaa.V
