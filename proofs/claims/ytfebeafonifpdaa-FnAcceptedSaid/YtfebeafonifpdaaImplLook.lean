/-
  Told, Voters, Count, silent and Silent of the program: contracts. No statement is proved here.
-/
import Derived.Test.YtfebeafonifpdaaBallots
import Derived.Test.YtfebeafonifpdaaImplSmall
import Derived.Test.YtfebeafonifpdaaOwnI
set_option linter.unusedVariables false
set_option maxRecDepth 100000
namespace Go.Proofs.Ytfebeafonifpdaa.V
open Go.RowKit Go.Proofs.Ytfebeafonifpdaa.B

theorem eq_sorted {α : Type} {r : α → α → Prop} (irr : ∀ a, ¬ r a a) (tr : ∀ a b c, r a b → r b c → r a c) : ∀ l1 l2 : List α, l1.Pairwise r → l2.Pairwise r → (∀ x, x ∈ l1 ↔ x ∈ l2) → l1 = l2
  | [], [], _, _, _ => rfl
  | [], b :: l2, _, _, h => by have := (h b).2 (by simp); simp at this
  | a :: l1, [], _, _, h => by have := (h a).1 (by simp); simp at this
  | a :: l1, b :: l2, h1, h2, h => by
    obtain ⟨a1, a2⟩ := List.pairwise_cons.1 h1
    obtain ⟨b1, b2⟩ := List.pairwise_cons.1 h2
    have hab : a = b := by
      rcases List.mem_cons.1 ((h a).1 (by simp)) with e | e
      · exact e
      · rcases List.mem_cons.1 ((h b).2 (by simp)) with e' | e'
        · exact e'.symm
        · exact absurd (tr _ _ _ (a1 b e') (b1 a e)) (irr a)
    subst hab
    refine congrArg (a :: ·) (eq_sorted irr tr l1 l2 a2 b2 fun x => ⟨fun hx => ?_, fun hx => ?_⟩)
    · rcases List.mem_cons.1 ((h x).1 (by simp [hx])) with e | e
      · subst e; exact absurd (a1 x hx) (irr x)
      · exact e
    · rcases List.mem_cons.1 ((h x).2 (by simp [hx])) with e | e
      · subst e; exact absurd (b1 x hx) (irr x)
      · exact e
theorem before_irr (u : B3) : ¬ before3 u u := by unfold before3; omega
theorem before_tr (a b c : B3) (h1 : before3 a b) (h2 : before3 b c) : before3 a c := by unfold before3 at *; omega
theorem getD_eq {vs : List B3} {i : Nat} (h : i < vs.length) : vs.getD i z3 = vs[i] := by simp [List.getD_eq_getElem?_getD, List.getElem?_eq_getElem h]
theorem pair_of {vs : List B3} (h : tallyOkB vs = true) : vs.Pairwise before3 := by
  rw [List.pairwise_iff_getElem]
  intro i j hi hj hij
  have := sorted_of h i j hij hj
  rwa [getD_eq hi, getD_eq hj] at this
theorem mem_ok {vs : List B3} (h : tallyOkB vs = true) {u : B3} (hu : u ∈ vs) : b3Ok u = true := by
  obtain ⟨i, hi, rfl⟩ := List.mem_iff_getElem.1 hu
  have := ok_of h i hi
  rwa [getD_eq hi] at this
theorem one_place : ∀ {vs : List B3}, vs.Pairwise before3 → ∀ {u v : B3}, u ∈ vs → v ∈ vs → u.2.1 = v.2.1 → u.1 = v.1 → u = v
  | [], _, _, _, h, _, _, _ => by simp at h
  | a :: r, hp, u, v, hu, hv, e1, e2 => by
    obtain ⟨h1, h2⟩ := List.pairwise_cons.1 hp
    rcases List.mem_cons.1 hu with eu | hu' <;> rcases List.mem_cons.1 hv with ev | hv'
    · rw [eu, ev]
    · subst eu; have := h1 v hv'; unfold before3 at this; omega
    · subst ev; have := h1 u hu'; unfold before3 at this; omega
    · exact one_place h2 hu' hv' e1 e2
theorem found_iff {vs : List B3} (h : vs.Pairwise before3) {p q x : Int} : (foundQ vs p q = true ∧ foundV vs p q = x) ↔ (q, p, x) ∈ vs := by
  unfold foundQ foundV
  constructor
  · rintro ⟨h1, h2⟩
    obtain ⟨u, hu⟩ := Option.isSome_iff_exists.1 h1
    have hm := List.mem_of_find?_eq_some hu
    have hp := List.find?_some hu
    simp only [isOf, decide_eq_true_eq] at hp
    rw [hu] at h2
    simp only [Option.map_some, Option.getD_some] at h2
    obtain ⟨a, b, c⟩ := u
    simp only at hp h2
    obtain ⟨rfl, rfl⟩ := hp
    subst h2
    exact hm
  · intro hm
    rcases hf : List.find? (isOf p q) vs with _ | u
    · have := List.find?_eq_none.1 hf _ hm
      simp [isOf] at this
    · have hp := List.find?_some hf
      simp only [isOf, decide_eq_true_eq] at hp
      have := one_place h (List.mem_of_find?_eq_some hf) hm hp.1 hp.2
      subst this
      exact ⟨rfl, rfl⟩
theorem found_not {vs : List B3} {p q : Int} : foundQ vs p q = false ↔ ∀ x, (q, p, x) ∉ vs := by
  unfold foundQ
  rw [Option.isSome_eq_false_iff, Option.isNone_iff_eq_none, List.find?_eq_none]
  constructor
  · intro h x hx
    have := h _ hx
    simp [isOf] at this
  · intro h u hu hi
    simp only [isOf, decide_eq_true_eq] at hi
    obtain ⟨a, b, c⟩ := u
    obtain ⟨rfl, rfl⟩ := hi
    exact h c hu
theorem range_asc (n : Nat) (g : Nat → Bool) : (((List.range n).filter g).map (fun (i : Nat) => (i : Int))).Pairwise (· < ·) := by
  rw [List.pairwise_map]
  refine List.Pairwise.imp (R := (· < ·)) (fun h => by omega) ?_
  exact List.Pairwise.filter _ List.pairwise_lt_range
/-- All that voted for val, asked for one by one. -/
def votK (L : List B3) (view val : Int) (k : Nat) : List Int := ((List.range k).filter fun (i : Nat) => foundQ L view (i : Int) && decide (foundV L view (i : Int) = val)).map fun (i : Nat) => (i : Int)
theorem votK_step (L : List B3) (view val : Int) (k : Nat) : votK L view val (k + 1) = votK L view val k ++ (if foundQ L view (k : Int) && decide (foundV L view (k : Int) = val) then [(k : Int)] else []) := by
  unfold votK
  rw [List.range_succ, List.filter_append, List.map_append]
  congr 1
  rcases h : foundQ L view (k : Int) && decide (foundV L view (k : Int) = val) with _ | _ <;> simp [List.filter, h]
theorem votK_len (L : List B3) (view val : Int) (k : Nat) : (votK L view val k).length ≤ k := by
  unfold votK
  rw [List.length_map]
  exact Nat.le_trans (List.length_filter_le _ _) (by simp)
theorem votK_all (vs : List B3) (view val : Int) : votK (goodL vs) view val 7 = votersR vs view val := by
  unfold goodL votersR
  rcases hq : tallyOkB vs with _ | _
  · simp [votK, foundQ]
  · simp only [if_true]
    have hp := pair_of hq
    refine eq_sorted (r := (· < ·)) (fun a => by omega) (fun a b c => by omega) _ _ (range_asc _ _) ?_ fun x => ?_
    · unfold votersL
      rw [List.pairwise_map, List.pairwise_filter]
      refine hp.imp fun {a b} hab h1 h2 => ?_
      simp only [isAt, decide_eq_true_eq] at h1 h2
      unfold before3 at hab
      omega
    · simp only [votK, votersL, List.mem_map, List.mem_filter, List.mem_range, Bool.and_eq_true, decide_eq_true_eq]
      constructor
      · rintro ⟨i, ⟨hi, h1, h2⟩, rfl⟩
        have hm := (found_iff hp).1 ⟨h1, h2⟩
        exact ⟨_, ⟨hm, by simp [isAt]⟩, rfl⟩
      · rintro ⟨⟨a, b, c⟩, ⟨hm, h1⟩, rfl⟩
        simp only [isAt, decide_eq_true_eq] at h1
        obtain ⟨rfl, rfl⟩ := h1
        have hb := mem_ok hq hm
        simp [b3Ok] at hb
        obtain ⟨n, hn⟩ : ∃ n : Nat, a = n := ⟨a.toNat, by omega⟩
        subst hn
        exact ⟨n, ⟨by omega, (found_iff hp).2 hm⟩, rfl⟩
theorem toldV_is (vs : List B3) (view who : Int) : foundV (goodL vs) view who = toldR vs view who := by
  unfold goodL toldR
  split <;> simp [foundV]
theorem toldQ_is (vs : List B3) (view who : Int) : foundQ (goodL vs) view who = toldQ vs view who := by
  unfold goodL toldQ
  split <;> simp_all [foundQ]
theorem form1 {w : World} {base e size n : Nat} {v : Value} {xs : List Value} (h : w.ownsRow base e size v n xs) : ∃ A c, v = .slice A n c := by
  obtain ⟨_, ⟨rfl, rfl⟩ | ⟨g, cap, cur, rfl, _⟩⟩ := h
  · exact ⟨_, _, rfl⟩
  · exact ⟨_, _, rfl⟩
theorem wf_nat {k : Nat} (h : k ≤ 1000) : wfI (k : Int) := WalkArith.wf_i64 (by omega)

end Go.Proofs.Ytfebeafonifpdaa.V
