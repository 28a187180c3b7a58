/-
  Replies put away one after another: the mathematics. No statement is proved here.
-/
import Derived.Test.YtfebeafonifpdaaAccP
import Derived.Test.YtfebeafonifpdaaDrawA
set_option linter.unusedVariables false
set_option maxRecDepth 100000
namespace Go.Proofs.Ytfebeafonifpdaa.V
open Go.RowKit Go.Proofs.Ytfebeafonifpdaa.B
theorem alike_snoc {L M : List B3} (u : B3) (h : Alike L M) : Alike (L ++ [u]) (M ++ [u]) := by
  intro p q
  obtain ⟨h1, h2⟩ := h p q
  rw [found_app, found_app, h1]
  refine ⟨rfl, ?_⟩
  rcases hf : foundQ L p q with _ | _
  · rcases hi : isOf p q u with _ | _
    · have a1 : foundV (L ++ [u]) p q = 0 := found_zero (by rw [found_app, hf, hi]; rfl)
      have a2 : foundV (M ++ [u]) p q = 0 := found_zero (by rw [found_app, ← h1, hf, hi]; rfl)
      rw [a1, a2]
    · rw [found_app_new hf hi, found_app_new (by rw [← h1]; exact hf) hi]
  · rw [found_app_old hf, found_app_old (by rw [← h1]; exact hf), h2]
theorem alike_trans {L M N : List B3} (h : Alike L M) (k : Alike M N) : Alike L N := fun p q => ⟨(h p q).1.trans (k p q).1, (h p q).2.trans (k p q).2⟩
theorem alike_symm {L M : List B3} (h : Alike L M) : Alike M L := fun p q => ⟨(h p q).1.symm, (h p q).2.symm⟩
theorem put_app (L : List B3) (u : B3) : Alike (putL L u) (L ++ [u]) := by
  unfold putL
  rcases hf : foundQ L u.2.1 u.1 with _ | _
  · exact Alike.refl _
  · intro p q
    simp only [if_true]
    rw [found_app]
    rcases hp : foundQ L p q with _ | _
    · rcases hi : isOf p q u with _ | _
      · refine ⟨rfl, ?_⟩
        rw [found_zero hp, found_zero (by rw [found_app, hp, hi]; rfl)]
      · exfalso
        unfold isOf at hi
        obtain ⟨e1, e2⟩ := of_decide_eq_true hi
        rw [e1, e2, hp] at hf
        cases hf
    · exact ⟨rfl, by rw [found_app_old hp]⟩
theorem putK_take (rs : List B3) : ∀ i, i ≤ rs.length → Alike (putK [] rs i) (rs.take i)
  | 0, _ => by simpa [putK] using Alike.refl []
  | i + 1, h => by
    rw [putK_step [] rs i (by omega), take_get rs z3 i (by omega)]
    have a := putK_take rs i (by omega)
    exact alike_trans (put_app _ _) (alike_snoc _ a)
theorem votK_alike {L M : List B3} (h : Alike L M) (view val : Int) (k : Nat) : votK L view val k = votK M view val k := by
  unfold votK
  congr 1
  apply List.filter_congr
  intro i _
  rw [(h view i).1, (h view i).2]
theorem win_of {g : Nat → Bool} : ∀ {m k i : Nat}, winN g k m = some i → g i = true
  | 0, k, i, h => by simp [winN] at h
  | m + 1, k, i, h => by
    rw [winN] at h
    rcases hg : g k with _ | _
    · rw [hg] at h
      exact win_of (by simpa using h)
    · rw [hg] at h
      simp at h
      rw [← h]; exact hg
theorem found_mem {L : List B3} {p q : Int} (h : foundQ L p q = true) : ∃ u ∈ L, u.1 = q := by
  unfold foundQ at h
  rw [List.find?_isSome] at h
  obtain ⟨u, hu, hi⟩ := h
  unfold isOf at hi
  exact ⟨u, hu, (of_decide_eq_true hi).2⟩
/-- Enough of the senders gave it first. -/
theorem acc_count {n seq : Int} {rs : List B3} {v : Nat} (h : accW n rs seq = some v) : (n = 4 ∨ n = 7) ∧ weakR n ≤ ((votK rs seq (v : Int) n.toNat).length : Int) := by
  have hQ : accQ n rs seq = true := by
    rcases hq : accQ n rs seq with _ | _
    · rw [acc_no hq] at h; cases h
    · rfl
  unfold accW at h
  rw [if_pos hQ] at h
  unfold accQ at hQ
  simp only [Bool.and_eq_true] at hQ
  obtain ⟨⟨h1, h2⟩, h3⟩ := hQ
  have hb : ∀ j, j < rs.length → accB n (rs.getD j z3) = true := fun j hj => List.all_eq_true.1 h3 _ (by rw [List.getD_eq_getElem?_getD, List.getElem?_eq_getElem hj]; exact List.getElem_mem hj)
  obtain ⟨hal, hV⟩ := acc_alike (n := n) (rs := rs) rs.length (Nat.le_refl _) hb
  have hal2 : Alike (rs.foldl addT []) rs := by
    have := alike_trans (alike_symm hal) (putK_take rs rs.length (Nat.le_refl _))
    rwa [List.take_length, joinK_all] at this
  rw [joinK_all] at hV
  have hen := win_of h
  unfold enough at hen
  have hcnt := of_decide_eq_true hen
  have hok := tallyOk_of hV
  have hvk : votK (rs.foldl addT []) seq (v : Int) 7 = votersL (rs.foldl addT []) seq (v : Int) := by
    have := votK_all (rs.foldl addT []) seq (v : Int)
    unfold goodL votersR at this
    rw [if_pos hok, if_pos hok] at this
    exact this
  have hlen : (votersL (rs.foldl addT []) seq (v : Int)).length = cntB (rs.foldl addT []) seq (v : Int) := by simp [votersL, cntB]
  rw [← hlen, ← hvk, votK_alike hal2] at hcnt
  have h47 := size_two h1
  refine ⟨h47, ?_⟩
  rcases h47 with rfl | rfl
  · have hno : ∀ k : Nat, 4 ≤ k → foundQ rs seq (k : Int) = false := fun k hk => by
      rcases hf : foundQ rs seq (k : Int) with _ | _
      · rfl
      · exfalso
        obtain ⟨u, hu, e⟩ := found_mem hf
        have := List.all_eq_true.1 h3 u hu
        unfold accB at this
        rw [Bool.and_eq_true] at this
        have := of_decide_eq_true this.2
        omega
    have e : votK rs seq (v : Int) 7 = votK rs seq (v : Int) 4 := by
      rw [votK_step, votK_step, votK_step, hno 4 (by omega), hno 5 (by omega), hno 6 (by omega)]
      simp
    rw [e] at hcnt
    exact hcnt
  · exact hcnt
theorem fixed_acc : accW 4 [(0, 0, 9), (2, 0, 9)] 0 = some 9 := by decide
theorem found_take (rs : List B3) (p q : Int) (k : Nat) (h : k < rs.length) : foundQ (rs.take (k + 1)) p q = (foundQ (rs.take k) p q || isOf p q (rs.getD k z3)) := by rw [take_get rs z3 k h, found_app]
theorem found_grow {rs : List B3} {p q : Int} {k : Nat} (hk : k ≤ rs.length) (h : foundQ (rs.take k) p q = true) : foundQ rs p q = true ∧ foundV rs p q = foundV (rs.take k) p q := by
  have e : rs = rs.take k ++ rs.drop k := (List.take_append_drop k rs).symm
  unfold foundQ foundV at *
  have h2 : rs.find? (isOf p q) = (rs.take k).find? (isOf p q) := by
    conv => lhs; rw [e]
    rw [List.find?_append]
    rcases hf : (rs.take k).find? (isOf p q) with _ | u
    · rw [hf] at h; simp at h
    · rfl
  rw [h2]
  exact ⟨h, rfl⟩
theorem found_hit {rs : List B3} {p q : Int} {k : Nat} (hk : k < rs.length) (h0 : foundQ (rs.take k) p q = false) (hi : isOf p q (rs.getD k z3) = true) : foundQ rs p q = true ∧ foundV rs p q = (rs.getD k z3).2.2 := by
  have h1 : foundQ (rs.take (k + 1)) p q = true := by rw [found_take rs p q k hk, h0, hi]; rfl
  obtain ⟨a, b⟩ := found_grow (by omega) h1
  refine ⟨a, b.trans ?_⟩
  rw [take_get rs z3 k hk]
  exact found_app_new h0 hi
theorem lit_two (w : World) : Rd3 (w.alloc (.cells #[.int .i64 0, .int .i64 0, .int .i64 9, .int .i64 2, .int .i64 0, .int .i64 9] 54)) (w.alloc (.cells #[.int .i64 0, .int .i64 0, .int .i64 9, .int .i64 2, .int .i64 0, .int .i64 9] 54)).heap.size (some ⟨w.heap.size, 0, none⟩) [(0, 0, 9), (2, 0, 9)] := by
  have hb := Blk.new w 54 #[.int .i64 0, .int .i64 0, .int .i64 9, .int .i64 2, .int .i64 0, .int .i64 9]
  refine fun _ => ⟨_, 0, rfl, hb.lt, fun i hi => ?_⟩
  rw [hb.cell, hb.cell, hb.cell]
  match i, hi with
  | 0, _ => exact ⟨rfl, rfl, rfl⟩
  | 1, _ => exact ⟨rfl, rfl, rfl⟩
theorem specWeak7 (n : Int) (h : n = 4 ∨ n = 7) (w : World) : Calls Try.prog 35 #[.int .i64 n] w fun e w' => e = .returned (.int .i64 (weakR n)) ∧ w' = w := specWeak_any n w
end Go.Proofs.Ytfebeafonifpdaa.V
