/-
  MsgRead of the model and of the program answer the same.
-/
import Derived.Test.YtbgkjhfhcaidcaaRead4
set_option linter.unusedVariables false
namespace Go.Proofs.Ytbgkjhfhcaidcaa.V
open Go.RowKit Go.ChangeShapes Go.WideShapes Go.Proofs.Ytbgkjhfhcaidcaa.B

theorem enc_inj {k v x a b k' v' x' a' b' : Int} {us us' : List (Int × Int)} (h : enc k v x a b us = enc k' v' x' a' b' us') : k = k' ∧ v = v' ∧ x = x' ∧ a = a' ∧ b = b' ∧ us = us' := by
  simp only [enc, List.cons.injEq] at h
  obtain ⟨h1, h2, h3, h4, h5, _, h6⟩ := h
  exact ⟨h1, h2, h3, h4, h5, flat_inj _ _ h6⟩
theorem pairs_of : ∀ (m : Nat) (r : List Int), r.length = 2 * m → ∃ us, us.length = m ∧ flat us = r
  | 0, r, h => ⟨[], rfl, (List.eq_nil_of_length_eq_zero (by omega)).symm⟩
  | m + 1, x :: y :: r, h => by
    obtain ⟨us, h1, h2⟩ := pairs_of m r (by simp at h; omega)
    exact ⟨(x, y) :: us, by simp [h1], by simp [flat, h2]⟩
  | m + 1, [x], h => by simp at h; omega
  | m + 1, [], h => by simp at h
theorem flat_at : ∀ (us : List (Int × Int)) (j : Nat), j < us.length → (flat us).getD (2 * j) 0 = (us.getD j (0, 0)).1 ∧ (flat us).getD (2 * j + 1) 0 = (us.getD j (0, 0)).2
  | [], j, h => by simp at h
  | u :: us, 0, h => by simp [flat]
  | u :: us, j + 1, h => by
    have := flat_at us j (by simp at h; omega)
    have e : 2 * (j + 1) = 2 * j + 1 + 1 := by omega
    rw [e]
    simpa [flat] using this
theorem By.at_ {xs : List Int} (h : By xs) {i : Nat} (hi : i < xs.length) : 0 ≤ xs.getD i 0 ∧ xs.getD i 0 < 256 := by
  rw [List.getD_eq_getElem?_getD, List.getElem?_eq_getElem hi]
  exact h _ (List.getElem_mem hi)

theorem specRead_is (A : Option Addr) (n c : Nat) (xs : List Int) (hx : By xs) (hl : xs.length ≤ 1048576) (hn : xs.length = n) (w : World) (hr : RdB w w.heap.size A xs) :
    Calls Try.prog 31 #[.slice A n c] w (IRes xs w) := by
  by_cases h6 : n < 6
  · exact (specRead_short A n c w h6).mono fun e w' h => .inr ⟨not_good (by omega), h⟩
  match xs, hx, hl, hn, hr with
  | k :: v :: x :: a :: b :: m :: r, hx, hl, hn, hr =>
    obtain ⟨bl, off, rfl, hb, hc⟩ := hr (by simp)
    have hm := hx m (by simp)
    obtain ⟨M, rfl⟩ : ∃ M : Nat, m = M := ⟨m.toNat, by omega⟩
    have hr' : r.length + 6 = n := by simp at hn; omega
    have c0 := hc 0 (by simp)
    have c1 := hc 1 (by simp)
    have c2 := hc 2 (by simp)
    have c3 := hc 3 (by simp)
    have c4 := hc 4 (by simp)
    have c5 := hc 5 (by simp)
    simp only [Nat.add_zero, List.getD_cons_zero, List.getD_cons_succ] at c0 c1 c2 c3 c4 c5
    by_cases he : n = 6 + 2 * M
    · obtain ⟨us, hus, hf⟩ := pairs_of M r (by omega)
      subst hf
      obtain ⟨q, hq⟩ : ∃ q, msgOkB k v x a b us = q := ⟨_, rfl⟩
      refine (specRead_go q k v x a b us bl off n M c w he (by omega) hus hb hq (hx k (by simp)) (hx v (by simp)) (hx x (by simp)) (hx a (by simp)) (hx b (by simp)) c0 c1 c2 c3 c4 c5 ?_).mono ?_
      · intro j hj
        have h1 := flat_at us j (by omega)
        have hfl := flat_len us
        have d0 := hc (6 + 2 * j) (by simp; omega)
        have d1 := hc (6 + 2 * j + 1) (by simp; omega)
        have e0 : (k :: v :: x :: a :: b :: (M : Int) :: flat us).getD (6 + 2 * j) 0 = (us.getD j (0, 0)).1 := by
          rw [← h1.1, show 6 + 2 * j = 2 * j + 1 + 1 + 1 + 1 + 1 + 1 by omega]
          simp only [List.getD_cons_succ]
        have e1 : (k :: v :: x :: a :: b :: (M : Int) :: flat us).getD (6 + 2 * j + 1) 0 = (us.getD j (0, 0)).2 := by
          rw [← h1.2, show 6 + 2 * j + 1 = 2 * j + 1 + 1 + 1 + 1 + 1 + 1 + 1 by omega]
          simp only [List.getD_cons_succ]
        have b0 := hx.at_ (i := 6 + 2 * j) (by simp; omega)
        have b1 := hx.at_ (i := 6 + 2 * j + 1) (by simp; omega)
        rw [e0] at d0 b0
        rw [e1] at d1 b1
        exact ⟨d0, d1, b0, b1⟩
      · intro e w' h
        cases q
        · refine .inr ⟨fun ⟨k', v', x', a', b', us', e1, e2⟩ => ?_, h⟩
          have e1' : enc k v x a b us = enc k' v' x' a' b' us' := by rw [← e1, enc, hus]
          obtain ⟨rfl, rfl, rfl, rfl, rfl, rfl⟩ := enc_inj e1'
          rw [hq] at e2
          cases e2
        · exact .inl ⟨k, v, x, a, b, us, by rw [enc, hus], hq, h⟩
    · refine (specRead_odd bl off n c M w (by omega) c5 (by omega) (by omega) (by omega)).mono fun e w' h => .inr ⟨fun ⟨k', v', x', a', b', us', e1, e2⟩ => ?_, h⟩
      simp only [enc, List.cons.injEq] at e1
      obtain ⟨_, _, _, _, _, e3, e4⟩ := e1
      have := congrArg List.length e4
      rw [flat_len] at this
      omega
  | [], _, _, hn, _ => simp at hn; omega
  | [_], _, _, hn, _ => simp at hn; omega
  | [_, _], _, _, hn, _ => simp at hn; omega
  | [_, _, _], _, _, hn, _ => simp at hn; omega
  | [_, _, _, _], _, _, hn, _ => simp at hn; omega
  | [_, _, _, _, _], _, _, hn, _ => simp at hn; omega

theorem reads_same (xs : List Int) (hx : By xs) (hl : xs.length ≤ 1048576) : ∃ k2 v2 x2 a2 b2 q us, us.length ≤ 1048576 ∧ ∀ w e w', IRes xs w e w' → GRes k2 v2 x2 a2 b2 q us w e w' := by
  by_cases hg : Good xs
  · obtain ⟨k, v, x, a, b, us, rfl, hq⟩ := id hg
    refine ⟨k, v, x, a, b, true, us, ?_, ?_⟩
    · have := hx (us.length : Int) (by simp [enc])
      omega
    · rintro w e w' (⟨k', v', x', a', b', us', e1, _, h⟩ | ⟨h, _⟩)
      · obtain ⟨rfl, rfl, rfl, rfl, rfl, rfl⟩ := enc_inj e1
        exact h
      · exact absurd hg h
  · refine ⟨0, 0, 0, 0, 0, false, [], by simp, ?_⟩
    rintro w e w' (⟨k', v', x', a', b', us', e1, e2, h⟩ | ⟨_, h⟩)
    · exact absurd ⟨_, _, _, _, _, _, e1, e2⟩ hg
    · exact h
end Go.Proofs.Ytbgkjhfhcaidcaa.V
