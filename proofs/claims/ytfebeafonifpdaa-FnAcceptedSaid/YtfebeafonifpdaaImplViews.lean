/-
  ViewsIn of the program: its contract. No statement is proved here.
-/
import Derived.Test.YtfebeafonifpdaaImplCounts
set_option linter.unusedVariables false
set_option maxRecDepth 100000
namespace Go.Proofs.Ytfebeafonifpdaa.V
open Go.RowKit Go.Proofs.Ytfebeafonifpdaa.B

theorem good_val (vs : List B3) : Val3 (goodL vs) := by
  unfold goodL
  rcases h : tallyOkB vs with _ | _
  · exact ⟨List.Pairwise.nil, fun u hu => by simp at hu⟩
  · exact val_of h
theorem good_len (vs : List B3) : (goodL vs).length ≤ vs.length := by
  unfold goodL
  split <;> simp
theorem size_pos {w : World} {b n : Nat} {D : DataW Unit} {g : Int → Nat} (h : w.ownsMap Try.prog 3 plI b n D) (hC : CH D g) : 0 < Maps.size D ↔ ∃ x, wfI x ∧ 0 < g x := by
  constructor
  · intro h0
    obtain ⟨es, clock, hb, Fi, hs, rfl⟩ := h
    have h1 : 0 < es.toList.length := by simpa [Maps.size, length_sorted] using h0
    obtain ⟨x, hx⟩ := List.exists_mem_of_length_pos h1
    obtain ⟨y, hy⟩ := Fi.reads x hx
    obtain ⟨z, ez, ekl, hw⟩ := Maps.keyOf_int_inv Try.underlying3 (WideElems.rd_key hy)
    refine ⟨z, hw, ?_⟩
    have hh : Maps.has (DataW.map ((es.toList.map (WideElems.rg Try.prog 3 plI)).foldr DataW.insert [])) (.int .i64 z) = true :=
      List.any_eq_true.2 ⟨WideElems.rg Try.prog 3 plI x, mem_sorted.2 (List.mem_map.2 ⟨x, hx, rfl⟩), by
        rw [WideElems.rg_of hy, ekl]; exact WideAt.sameKey_self (intKey hw)⟩
    rw [(hC.2 z hw).1] at hh
    simpa using hh
  · rintro ⟨x, hx, h0⟩
    have hh := (hC.2 x hx).1
    rw [decide_eq_true h0] at hh
    obtain ⟨es, rfl⟩ := hC.1
    obtain ⟨p, hp, _⟩ := List.any_eq_true.1 hh
    exact List.length_pos_of_mem hp
def anyV (L : List B3) (v : Int) : Bool := L.any fun u => decide (u.2.1 = v)
theorem cnt_pos (L : List B3) (v x : Int) : 0 < cntB L v x ↔ ∃ u ∈ L, u.2.1 = v ∧ u.2.2 = x := by
  unfold cntB
  rw [List.length_pos_iff_exists_mem]
  constructor
  · rintro ⟨u, hu⟩
    obtain ⟨h1, h2⟩ := List.mem_filter.1 hu
    simp only [isAt, decide_eq_true_eq] at h2
    exact ⟨u, h1, h2⟩
  · rintro ⟨u, h1, h2⟩
    exact ⟨u, List.mem_filter.2 ⟨h1, by simpa [isAt] using h2⟩⟩
theorem any_pos {L : List B3} (hV : Val3 L) (v : Int) : (∃ x, wfI x ∧ 0 < cntB L v x) ↔ anyV L v = true := by
  unfold anyV
  rw [List.any_eq_true]
  constructor
  · rintro ⟨x, _, h⟩
    obtain ⟨u, hu, e, _⟩ := (cnt_pos L v x).1 h
    exact ⟨u, hu, by simpa using e⟩
  · rintro ⟨u, hu, e⟩
    exact ⟨u.2.2, (val_wf hV hu).2.2, (cnt_pos L v _).2 ⟨u, hu, by simpa using e, rfl⟩⟩
def viewK (L : List B3) (k : Nat) : List Int := ((List.range k).filter fun (i : Nat) => anyV L (i : Int)).map fun (i : Nat) => (i : Int)
theorem viewK_step (L : List B3) (k : Nat) : viewK L (k + 1) = viewK L k ++ (if anyV L (k : Int) then [(k : Int)] else []) := by
  unfold viewK
  rw [List.range_succ, List.filter_append, List.map_append]
  congr 1
  rcases h : anyV L (k : Int) with _ | _ <;> simp [List.filter, h]
theorem first_at {vs : List B3} : ∀ i, ∃ j, j ≤ i ∧ newAt vs j = true ∧ (vs.getD j z3).2.1 = (vs.getD i z3).2.1
  | 0 => ⟨0, Nat.le_refl _, by simp [newAt], rfl⟩
  | i + 1 => by
    by_cases h : (vs.getD i z3).2.1 = (vs.getD (i + 1) z3).2.1
    · obtain ⟨j, h1, h2, h3⟩ := first_at (vs := vs) i
      exact ⟨j, by omega, h2, h3.trans h⟩
    · exact ⟨i + 1, Nat.le_refl _, by simp only [newAt, Nat.add_sub_cancel, Bool.or_eq_true, decide_eq_true_eq]; exact .inr h, rfl⟩
theorem view_mono {vs : List B3} (h : tallyOkB vs = true) {i j : Nat} (hij : i ≤ j) (hj : j < vs.length) : (vs.getD i z3).2.1 ≤ (vs.getD j z3).2.1 := by
  by_cases e : i = j
  · subst e; exact Int.le_refl _
  · have := sorted_of h i j (by omega) hj
    unfold before3 at this
    omega
theorem viewK_all (vs : List B3) : viewK (goodL vs) 10 = viewsR vs := by
  unfold goodL viewsR
  rcases hq : tallyOkB vs with _ | _
  · simp [viewK, anyV]
  · simp only [if_true]
    refine eq_sorted (r := (· < ·)) (fun a => by omega) (fun a b c => by omega) _ _ (range_asc _ _) ?_ fun x => ?_
    · unfold viewsK
      rw [List.pairwise_map]
      refine List.Pairwise.imp_of_mem (R := (· < ·)) (fun {a b} ha hb hab => ?_) (List.Pairwise.filter _ List.pairwise_lt_range)
      have hb1 := List.mem_range.1 (List.mem_filter.1 hb).1
      have hb2 := (List.mem_filter.1 hb).2
      simp only [newAt, Bool.or_eq_true, decide_eq_true_eq] at hb2
      have h1 := view_mono hq (i := a) (j := b - 1) (by omega) (by omega)
      have h2 := view_mono hq (i := b - 1) (j := b) (by omega) hb1
      have h3 : (vs.getD (b - 1) z3).2.1 ≠ (vs.getD b z3).2.1 := by
        rcases hb2 with h | h
        · omega
        · exact h
      omega
    · simp only [viewK, viewsK, List.mem_map, List.mem_filter, List.mem_range]
      constructor
      · rintro ⟨i, ⟨hi, h1⟩, rfl⟩
        obtain ⟨u, hu, e⟩ := List.any_eq_true.1 h1
        obtain ⟨k, hk, rfl⟩ := List.mem_iff_getElem.1 hu
        obtain ⟨j, h2, h3, h4⟩ := first_at (vs := vs) k
        refine ⟨j, ⟨by omega, h3⟩, ?_⟩
        rw [h4, getD_eq hk]
        simpa using e
      · rintro ⟨k, ⟨hk, h1⟩, rfl⟩
        have hb := ok_of hq k hk
        simp [b3Ok, viewB] at hb
        rw [List.getElem?_eq_getElem hk] at hb
        simp only [Option.getD_some] at hb
        rw [getD_eq hk]
        refine ⟨(vs[k]).2.1.toNat, ⟨by omega, List.any_eq_true.2 ⟨vs[k], List.getElem_mem hk, ?_⟩⟩, by omega⟩
        simp only [decide_eq_true_eq]
        omega

end Go.Proofs.Ytfebeafonifpdaa.V
