/-
  WithVote of the program and of the model answer the same. No statement is proved here.
-/
import Derived.Test.YtbgkjhfhcaidcaaSpecWith
set_option linter.unusedVariables false
namespace Go.Proofs.Ytbgkjhfhcaidcaa.V
open Go.RowKit Go.Proofs.Ytbgkjhfhcaidcaa.B

def gtN (vs : List (Int × Int)) (a : Int) : Nat := (vs.takeWhile fun p => decide (¬ a < p.1)).length
theorem gt_gtN (vs : List (Int × Int)) (a : Int) : Gt vs a (gtN vs a) := by
  induction vs with
  | nil => exact ⟨by simp [gtN], fun j hj => by simp [gtN] at hj, fun h => by simp at h⟩
  | cons p vs ih =>
    obtain ⟨i1, i2, i3⟩ := ih
    by_cases hp : a < p.1
    · have e : gtN (p :: vs) a = 0 := by simp [gtN, hp]
      rw [e]
      exact ⟨Nat.zero_le _, fun j hj => absurd hj (by omega), fun _ => by simpa using hp⟩
    · have hp' : p.1 ≤ a := by omega
      have e : gtN (p :: vs) a = gtN vs a + 1 := by simp [gtN, hp']
      rw [e]
      refine ⟨by simpa using i1, fun j hj => ?_, fun h => ?_⟩
      · cases j with
        | zero => simpa using hp
        | succ j => simpa using i2 j (by omega)
      · simpa using i3 (by simpa using h)

theorem votes_of {v x a b : Int} {vs : List (Int × Int)} (h : msgOkB 3 v x a b vs = true) : votesOkB vs v = true := by
  simp [msgOkB] at h
  exact h.2.1.2
theorem no_of {v x a b : Int} {vs : List (Int × Int)} (h : votesOkB vs v = false) : msgOkB 3 v x a b vs = false := by
  simp [msgOkB, h]
theorem good_of {vs : List (Int × Int)} {below : Int} (h : votesOkB vs below = true) {j : Nat} (hj : j < vs.length) : goodAt vs below j = true := by
  unfold votesOkB at h
  rw [List.all_eq_true] at h
  exact h j (List.mem_range.2 hj)
theorem asc_of {vs : List (Int × Int)} {below : Int} (h : votesOkB vs below = true) {j : Nat} (hj : j + 1 < vs.length) : (vs.getD j (0, 0)).1 < (vs.getD (j + 1) (0, 0)).1 := by
  have := good_of h hj
  unfold goodAt at this
  simp only [Bool.and_eq_true, Bool.or_eq_true, decide_eq_true_eq, Nat.add_sub_cancel] at this
  rcases this.2 with h2 | h2
  · omega
  · exact h2
theorem view_of {vs : List (Int × Int)} {below : Int} (h : votesOkB vs below = true) {j : Nat} (hj : j < vs.length) : 0 ≤ (vs.getD j (0, 0)).1 ∧ (vs.getD j (0, 0)).1 ≤ 9 := by
  have := good_of h hj
  unfold goodAt viewOkB at this
  simp only [Bool.and_eq_true, decide_eq_true_eq] at this
  exact this.1.1.1
theorem len_of {vs : List (Int × Int)} {below : Int} (h : votesOkB vs below = true) : vs.length ≤ 10 := by
  have key : ∀ j, j < vs.length → (j : Int) ≤ (vs.getD j (0, 0)).1 := by
    intro j
    induction j with
    | zero => intro hj; exact (view_of h hj).1
    | succ j ih =>
      intro hj
      have h1 := ih (by omega)
      have h2 := asc_of h hj
      omega
  by_cases h0 : vs.length = 0
  · omega
  · have h1 := key (vs.length - 1) (by omega)
    have h2 := (view_of h (show vs.length - 1 < vs.length by omega)).2
    omega
theorem twice_no {us : List (Int × Int)} {below : Int} {i : Nat} {p q : Int × Int} (hp : us[i]? = some p) (hq : us[i + 1]? = some q) (he : p.1 = q.1) : votesOkB us below = false := by
  have hi : i + 1 < us.length := (List.getElem?_eq_some_iff.1 hq).1
  refine votesOk_no hi ?_
  unfold goodAt
  have e1 : us.getD (i + 1) (0, 0) = q := by simp [List.getD, hq]
  have e2 : us.getD (i + 1 - 1) (0, 0) = p := by simp [List.getD, hp]
  rw [e1, e2, he]
  simp
theorem same_place {v x a b : Int} {vs : List (Int × Int)} (va vb : Int) (h : msgOkB 3 v x a b vs = true) :
    insS vs (gtN vs va) va vb = insR vs va vb ∨ (msgOkB 3 v x a b (insS vs (gtN vs va) va vb) = false ∧ msgOkB 3 v x a b (insR vs va vb) = false) := by
  obtain ⟨a1, a2, a3⟩ := at_atN vs va
  obtain ⟨g1, g2, g3⟩ := gt_gtN vs va
  have hv := votes_of h
  show insS vs (gtN vs va) va vb = insS vs (atN vs va) va vb ∨ (_ ∧ msgOkB 3 v x a b (insS vs (atN vs va) va vb) = false)
  generalize gtN vs va = K at *
  generalize atN vs va = A at *
  by_cases hAK : A = K
  · left; rw [hAK]
  · right
    have hlt : A < K := by
      rcases Nat.lt_or_gt_of_ne hAK with h1 | h1
      · exact h1
      · have := a2 K h1
        have := g3 (by omega)
        omega
    have hA : A < vs.length := by omega
    have e : (vs.getD A (0, 0)).1 = va := by
      have := a3 hA
      have := g2 A hlt
      omega
    have hK : K = A + 1 := by
      by_cases hc : A + 1 < K
      · have h1 := g2 (A + 1) hc
        have h2 := asc_of hv (show A + 1 < vs.length by omega)
        omega
      · omega
    subst hK
    constructor
    · exact no_of (twice_no (insS_lo vs (A + 1) A va vb (by omega) (by omega)) (insS_at vs (A + 1) va vb (by omega)) e)
    · exact no_of (twice_no (insS_at vs A va vb (by omega)) (insS_hi vs A A va vb (by omega) hA) e.symm)

set_option maxHeartbeats 1600000 in
theorem specWith_no (q : Bool) (k v x a b va vb : Int) (g n : Nat) (vs us : List (Int × Int)) (hvn : vs.length = n) (hq : msgOkB k v x a b vs = q) (hk : q = true → k ≠ 3) (w : World) (hr : Rd w w.heap.size (some ⟨g, 0, none⟩) vs) (hn : n ≤ 1048576) :
    Calls Try.prog 41 #[.agg #[.int .i64 k, .int .i64 v, .int .i64 x, .int .i64 a, .int .i64 b, .slice (some ⟨g, 0, none⟩) n n], .agg #[.int .i64 va, .int .i64 vb]] w (WRes false v x a b us w) := by
  have hz0 := Blk.new ((w.alloc (.cells #[.int .i64 k, .int .i64 v, .int .i64 x, .int .i64 a, .int .i64 b, .slice (some ⟨g, 0, none⟩) n n] 38)).alloc (.cells #[.int .i64 va, .int .i64 vb] 36)) 38 #[.int .i64 0, .int .i64 0, .int .i64 0, .int .i64 0, .int .i64 0, .slice none 0 0]
  have hk0 := ((Blk.new w 38 #[.int .i64 k, .int .i64 v, .int .i64 x, .int .i64 a, .int .i64 b, .slice (some ⟨g, 0, none⟩) n n]).alloc (.cells #[.int .i64 va, .int .i64 vb] 36)).alloc (.cells #[.int .i64 0, .int .i64 0, .int .i64 0, .int .i64 0, .int .i64 0, .slice none 0 0] 38)
  simp only [World.size_alloc] at hz0
  have hr0 := fun O O' O'' => ((hr.up O).up O').up O''
  have HR := Lib.hid hr0; clear hr0 hr
  have hcon := fun W h => specMsgOk_is q k v x a b (some ⟨g, 0, none⟩) n vs hq W h (by omega)
  rw [hvn] at hcon
  have HCON := Lib.hid hcon; clear hcon hq hvn
  have HK := Lib.hid hk; clear hk
  cases q
  · go_enter Try.func41, Try.ntmps41
    go_wp2_with fail
    refine (HCON.out _ (HR.out _ _ _)).mono ?_
    rintro e w1 ⟨rfl, hb1⟩
    have hz1 := hz0.on hb1
    have rz1 := hz1.rule
    have fz1 := fun i => hz1.frozen i
    have hB1 := on_ (up_ (up_ (up_ (Below.refl w.heap.size w) _) _) _) hb1
    have hs1 := hz1.lt
    clear hk0 hz0 hb1
    go_wp2
    refine bodyPost_ret (v := .tuple #[.agg #[.int .i64 0, .int .i64 0, .int .i64 0, .int .i64 0, .int .i64 0, .slice none 0 0], .bool false]) (by simp [results, Try.results41, go_sem, rz1]) rfl ?_
    refine ⟨none, 0, rfl, OV.nil_, ?_⟩
    iterate 6 refine Below.setCell ?_ (by simp <;> omega) _
    exact hB1
  · have hk3 : (k != 3) = true := by rw [bne_iff_ne]; exact HK.out rfl
    clear HK
    go_enter Try.func41, Try.ntmps41
    go_wp2_with fail
    refine (HCON.out _ (HR.out _ _ _)).mono ?_
    rintro e w1 ⟨rfl, hb1⟩
    have hz1 := hz0.on hb1
    have hk1 := hk0.on hb1
    have rz1 := hz1.rule
    have rk1 := hk1.rule
    have fz1 := fun i => hz1.frozen i
    have hB1 := on_ (up_ (up_ (up_ (Below.refl w.heap.size w) _) _) _) hb1
    have hs1 := hz1.lt
    clear hk0 hz0 hb1
    go_wp2
    refine bodyPost_ret (v := .tuple #[.agg #[.int .i64 0, .int .i64 0, .int .i64 0, .int .i64 0, .int .i64 0, .slice none 0 0], .bool false]) (by simp [results, Try.results41, go_sem, rz1]) rfl ?_
    refine ⟨none, 0, rfl, OV.nil_, ?_⟩
    iterate 6 refine Below.setCell ?_ (by simp <;> omega) _
    exact hB1

set_option maxHeartbeats 1600000 in
theorem implWith_bad (v x a b va vb : Int) (g n : Nat) (vs us : List (Int × Int)) (hvn : vs.length = n) (hq : msgOkB 3 v x a b vs = false) (w : World) (hr : Rd w w.heap.size (some ⟨g, 0, none⟩) vs) (hn : n ≤ 1048576) :
    Calls Try.prog 43 #[.agg #[.int .i64 3, .int .i64 v, .int .i64 x, .int .i64 a, .int .i64 b, .slice (some ⟨g, 0, none⟩) n n], .agg #[.int .i64 va, .int .i64 vb]] w (WRes false v x a b us w) := by
  have hz0 := Blk.new ((w.alloc (.cells #[.int .i64 3, .int .i64 v, .int .i64 x, .int .i64 a, .int .i64 b, .slice (some ⟨g, 0, none⟩) n n] 38)).alloc (.cells #[.int .i64 va, .int .i64 vb] 36)) 38 #[.int .i64 0, .int .i64 0, .int .i64 0, .int .i64 0, .int .i64 0, .slice none 0 0]
  simp only [World.size_alloc] at hz0
  have hr0 := fun O O' O'' => ((hr.up O).up O').up O''
  have HR := Lib.hid hr0; clear hr0 hr
  have hcon := fun W h => implMsgOk_is false 3 v x a b (some ⟨g, 0, none⟩) n vs hq W h (by omega)
  rw [hvn] at hcon
  have HCON := Lib.hid hcon; clear hcon hq hvn
  go_enter Try.func43, Try.ntmps43
  go_wp2_with fail
  refine (HCON.out _ (HR.out _ _ _)).mono ?_
  rintro e w1 ⟨rfl, hb1⟩
  have hz1 := hz0.on hb1
  have rz1 := hz1.rule
  have fz1 := fun i => hz1.frozen i
  have hB1 := on_ (up_ (up_ (up_ (Below.refl w.heap.size w) _) _) _) hb1
  have hs1 := hz1.lt
  clear hz0 hb1
  go_wp2
  refine bodyPost_ret (v := .tuple #[.agg #[.int .i64 0, .int .i64 0, .int .i64 0, .int .i64 0, .int .i64 0, .slice none 0 0], .bool false]) (by simp [results, Try.results43, go_sem, rz1]) rfl ?_
  refine ⟨none, 0, rfl, OV.nil_, ?_⟩
  iterate 6 refine Below.setCell ?_ (by simp <;> omega) _
  exact hB1

/-- Whether a vote may be put into a message. -/
def putB (k v x a b va vb : Int) (vs : List (Int × Int)) : Bool := decide (k = 3) && (msgOkB 3 v x a b vs && msgOkB 3 v x a b (insR vs va vb))

theorem specWith_is (k v x a b va vb : Int) (g n : Nat) (vs : List (Int × Int)) (hvn : vs.length = n) (w : World) (hr : Rd w w.heap.size (some ⟨g, 0, none⟩) vs) (hn : n ≤ 1048576) :
    Calls Try.prog 41 #[.agg #[.int .i64 k, .int .i64 v, .int .i64 x, .int .i64 a, .int .i64 b, .slice (some ⟨g, 0, none⟩) n n], .agg #[.int .i64 va, .int .i64 vb]] w (WRes (putB k v x a b va vb vs) v x a b (insR vs va vb) w) := by
  by_cases hk : k = 3
  · subst hk
    rcases hq : msgOkB 3 v x a b vs with _ | _
    · have e : putB 3 v x a b va vb vs = false := by simp [putB, hq]
      rw [e]
      exact specWith_no false 3 v x a b va vb g n vs _ hvn hq (by simp) w hr hn
    · have hl := len_of (votes_of hq)
      have h := specWith_go _ v x a b va vb g n (gtN vs va) vs hvn (gt_gtN vs va) hq rfl w hr (by omega)
      have e : putB 3 v x a b va vb vs = msgOkB 3 v x a b (insR vs va vb) := by simp [putB, hq]
      rw [e]
      rcases same_place va vb hq with h1 | ⟨h1, h2⟩
      · rw [h1] at h; exact h
      · rw [h1] at h; rw [h2]
        exact h.mono fun e w' ⟨B, d, h1, h2, h3⟩ => ⟨B, d, h1, h2, h3⟩
  · have e : putB k v x a b va vb vs = false := by simp [putB, hk]
    rw [e]
    exact specWith_no _ k v x a b va vb g n vs _ hvn rfl (fun _ => hk) w hr hn
theorem implWith_any (k v x a b va vb : Int) (g n : Nat) (vs : List (Int × Int)) (hvn : vs.length = n) (w : World) (hr : Rd w w.heap.size (some ⟨g, 0, none⟩) vs) (hn : n ≤ 1048576) :
    Calls Try.prog 43 #[.agg #[.int .i64 k, .int .i64 v, .int .i64 x, .int .i64 a, .int .i64 b, .slice (some ⟨g, 0, none⟩) n n], .agg #[.int .i64 va, .int .i64 vb]] w (WRes (putB k v x a b va vb vs) v x a b (insR vs va vb) w) := by
  by_cases hk : k = 3
  · subst hk
    rcases hq : msgOkB 3 v x a b vs with _ | _
    · have e : putB 3 v x a b va vb vs = false := by simp [putB, hq]
      rw [e]
      exact implWith_bad v x a b va vb g n vs _ hvn hq w hr hn
    · have hl := len_of (votes_of hq)
      have h := implWith_is true _ v x a b va vb g n vs hvn hq rfl w hr (by omega)
      have e : putB 3 v x a b va vb vs = (true && msgOkB 3 v x a b (insR vs va vb)) := by simp [putB, hq]
      rw [e]
      exact h
  · have e : putB k v x a b va vb vs = false := by simp [putB, hk]
    rw [e]
    exact implWith_no k v x a b va vb g n _ hk w
end Go.Proofs.Ytbgkjhfhcaidcaa.V
