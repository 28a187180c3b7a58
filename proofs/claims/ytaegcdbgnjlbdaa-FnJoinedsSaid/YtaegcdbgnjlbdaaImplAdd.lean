/-
  TallyAdd and Joined of the program: contracts. No statement is proved here.
-/
import Derived.Test.YtaegcdbgnjlbdaaImplTab
import Derived.Test.YtaegcdbgnjlbdaaJoined
set_option linter.unusedVariables false
set_option maxRecDepth 100000
namespace Go.Proofs.Ytaegcdbgnjlbdaa.V
open Go.RowKit Go.Proofs.Ytaegcdbgnjlbdaa.B

/-- A valid tally, said of its ballots. -/
def Val3 (M : List B3) : Prop := M.Pairwise before3 ∧ ∀ u ∈ M, b3Ok u = true
theorem val_of {vs : List B3} (h : tallyOkB vs = true) : Val3 vs := ⟨pair_of h, fun u hu => mem_ok h hu⟩
/-- At every place the same. -/
def Alike (L M : List B3) : Prop := ∀ p q, foundQ L p q = foundQ M p q ∧ foundV L p q = foundV M p q
theorem Alike.refl (L : List B3) : Alike L L := fun _ _ => ⟨rfl, rfl⟩
theorem found_zero {L : List B3} {p q : Int} (h : foundQ L p q = false) : foundV L p q = 0 := by
  have h3 : List.find? (isOf p q) L = none := by simpa [foundQ] using h
  simp [foundV, h3]
theorem tabF_alike {L M : List B3} (h : Alike L M) (v : Int) (j : Nat) : tabF L v j = tabF M v j := by
  unfold tabF
  have e1 : (fun (i : Nat) => foundQ L v (i : Int)) = fun (i : Nat) => foundQ M v (i : Int) := funext fun i => (h v i).1
  have e2 : (fun (i : Nat) => ((i : Int), v, foundV L v (i : Int))) = fun (i : Nat) => ((i : Int), v, foundV M v (i : Int)) := funext fun i => by rw [(h v i).2]
  rw [e1, e2]
theorem tabL_alike {L M : List B3} (h : Alike L M) : tabL L = tabL M := by
  unfold tabL tabV
  have e : (fun (v : Nat) => tabF L (v : Int) 7) = fun (v : Nat) => tabF M (v : Int) 7 := funext fun v => tabF_alike h v 7
  rw [e]
theorem tabF_pair (L : List B3) (v : Int) (j : Nat) : (tabF L v j).Pairwise before3 := by
  unfold tabF
  rw [List.pairwise_map]
  refine List.Pairwise.imp (R := (· < ·)) (fun {a b} h => ?_) (List.Pairwise.filter _ List.pairwise_lt_range)
  unfold before3
  exact .inr ⟨rfl, by simp only; omega⟩
theorem tabF_mem {L : List B3} {v : Int} {j : Nat} {u : B3} (h : u ∈ tabF L v j) : u.2.1 = v := by
  obtain ⟨i, _, rfl⟩ := List.mem_map.1 h
  rfl
theorem tabV_mem {L : List B3} {k : Nat} {u : B3} (h : u ∈ tabV L k) : u.2.1 < k := by
  obtain ⟨v, hv, hu⟩ := List.mem_flatMap.1 h
  have := tabF_mem hu
  have := List.mem_range.1 hv
  omega
theorem tabV_pair (L : List B3) : ∀ k, (tabV L k).Pairwise before3
  | 0 => by simp [tabV]
  | k + 1 => by
    rw [tabV_step, List.pairwise_append]
    refine ⟨tabV_pair L k, tabF_pair _ _ _, fun a ha b hb => .inl ?_⟩
    have := tabV_mem ha
    have := tabF_mem hb
    omega
theorem tabL_self {M : List B3} (h : Val3 M) : tabL M = M := by
  refine eq_sorted before_irr before_tr _ _ (tabV_pair M 10) h.1 fun u => ⟨fun hu => ?_, fun hu => ?_⟩
  · obtain ⟨v, _, hu⟩ := List.mem_flatMap.1 hu
    obtain ⟨i, hi, rfl⟩ := List.mem_map.1 hu
    have := (List.mem_filter.1 hi).2
    exact (found_iff h.1).1 ⟨this, rfl⟩
  · have hb := h.2 u hu
    obtain ⟨a, b, c⟩ := u
    simp [b3Ok, viewB] at hb
    obtain ⟨n, rfl⟩ : ∃ n : Nat, a = n := ⟨a.toNat, by omega⟩
    obtain ⟨m, rfl⟩ : ∃ m : Nat, b = m := ⟨b.toNat, by omega⟩
    obtain ⟨h1, h2⟩ := (found_iff h.1).2 hu
    refine List.mem_flatMap.2 ⟨m, List.mem_range.2 (by omega), List.mem_map.2 ⟨n, List.mem_filter.2 ⟨List.mem_range.2 (by omega), h1⟩, ?_⟩⟩
    rw [h2]

theorem same_cmp {p u : B3} : cmp3 p u = 0 ↔ p.2.1 = u.2.1 ∧ p.1 = u.1 := by
  unfold cmp3
  split
  · split <;> omega
  · split
    · omega
    · split <;> omega
theorem cmp_gt {p u : B3} (h : ¬ cmp3 p u < 0) (h2 : cmp3 p u ≠ 0) : before3 u p := by
  have h3 : ¬ before3 p u := fun h3 => h (cmp_lt.2 h3)
  have h4 : ¬ (p.2.1 = u.2.1 ∧ p.1 = u.1) := fun h4 => h2 (same_cmp.2 h4)
  unfold before3 at *
  omega
theorem pl_of {M : List B3} (h : M.Pairwise before3) (u : B3) : hasB M u (place M u) = foundQ M u.2.1 u.1 := by
  obtain ⟨p1, p2, p3⟩ := place_pl M u
  rcases hf : foundQ M u.2.1 u.1 with _ | _
  · unfold hasB
    rw [Bool.and_eq_false_iff, decide_eq_false_iff_not, decide_eq_false_iff_not]
    by_cases hk : place M u < M.length
    · refine .inr fun h0 => ?_
      obtain ⟨e1, e2⟩ := same_cmp.1 h0
      rw [getD_eq hk] at e1 e2
      have hm : M[place M u] ∈ M := List.getElem_mem hk
      generalize M[place M u] = v at *
      obtain ⟨a, b, c⟩ := v
      simp only at e1 e2
      subst e1 e2
      exact found_not.1 hf c hm
    · exact .inl hk
  · have hm := (found_iff h).1 ⟨hf, rfl⟩
    obtain ⟨i, hi, he⟩ := List.mem_iff_getElem.1 hm
    have hc : cmp3 (M.getD i z3) u = 0 := by rw [getD_eq hi, he]; exact same_cmp.2 ⟨rfl, rfl⟩
    have hki : place M u ≤ i := by
      rcases Nat.lt_or_ge i (place M u) with hlt | hge
      · have := p2 i hlt; omega
      · exact hge
    have hk : place M u < M.length := by omega
    have hkc : cmp3 (M.getD (place M u) z3) u = 0 := by
      by_cases e : place M u = i
      · rw [e]; exact hc
      · have hb := List.pairwise_iff_getElem.1 h (place M u) i hk hi (by omega)
        rw [he] at hb
        have := p3 hk
        refine absurd (cmp_lt.2 ?_) this
        rw [getD_eq hk]
        unfold before3 at *
        exact hb
    unfold hasB
    rw [hkc]
    simp [hk]
theorem insT_mem {M : List B3} {k : Nat} {u v : B3} : v ∈ insT M k u ↔ v ∈ M ∨ v = u := by
  unfold insT
  rw [List.mem_append, List.mem_cons]
  constructor
  · rintro (h | h | h)
    · exact .inl (List.mem_of_mem_take h)
    · exact .inr h
    · exact .inl (List.mem_of_mem_drop h)
  · rintro (h | h)
    · rw [← List.take_append_drop k M, List.mem_append] at h
      rcases h with h | h
      · exact .inl h
      · exact .inr (.inr h)
    · exact .inr (.inl h)
theorem insT_val {M : List B3} {u : B3} (h : Val3 M) (hu : b3Ok u = true) (hno : foundQ M u.2.1 u.1 = false) : Val3 (insT M (place M u) u) := by
  obtain ⟨p1, p2, p3⟩ := place_pl M u
  have hp := List.pairwise_iff_getElem.1 h.1
  have hno2 : ∀ i (hi : i < M.length), cmp3 M[i] u ≠ 0 := fun i hi h0 => by
    obtain ⟨e1, e2⟩ := same_cmp.1 h0
    have hm : M[i] ∈ M := List.getElem_mem hi
    generalize M[i] = v at *
    obtain ⟨a, b, c⟩ := v
    simp only at e1 e2
    subst e1 e2
    exact found_not.1 hno c hm
  have hlo : ∀ v ∈ M.take (place M u), before3 v u := fun v hv => by
    obtain ⟨i, hi, rfl⟩ := List.mem_take_iff_getElem.1 hv
    have := p2 i (by omega)
    rw [getD_eq (by omega)] at this
    exact cmp_lt.1 this
  have hhi : ∀ v ∈ M.drop (place M u), before3 u v := fun v hv => by
    obtain ⟨i, hi, rfl⟩ := List.mem_drop_iff_getElem.1 hv
    have hk : place M u < M.length := by omega
    have h1 := p3 hk
    rw [getD_eq hk] at h1
    have h2 := cmp_gt h1 (hno2 _ hk)
    by_cases e : i = 0
    · subst e; simpa using h2
    · exact before_tr _ _ _ h2 (hp _ _ hk (by omega) (by omega))
  refine ⟨?_, fun v hv => ?_⟩
  · unfold insT
    rw [List.pairwise_append, List.pairwise_cons]
    refine ⟨h.1.sublist (List.take_sublist _ _), ⟨hhi, h.1.sublist (List.drop_sublist _ _)⟩, fun a ha b hb => ?_⟩
    rcases List.mem_cons.1 hb with rfl | hb
    · exact hlo a ha
    · exact before_tr _ _ _ (hlo a ha) (hhi b hb)
  · rcases insT_mem.1 hv with hv | rfl
    · exact h.2 v hv
    · exact hu
theorem addT_val {M : List B3} {u : B3} (h : Val3 M) (hu : b3Ok u = true) : Val3 (addT M u) := by
  unfold addT
  rw [pl_of h.1]
  rcases hf : foundQ M u.2.1 u.1 with _ | _
  · simpa using insT_val h hu hf
  · simpa using h
theorem put_alike {L M : List B3} {u : B3} (hA : Alike L M) (h : Val3 M) (hu : b3Ok u = true) : Alike (putL L u) (addT M u) := by
  have hV := addT_val h hu
  unfold putL addT at *
  rw [pl_of h.1] at *
  rw [(hA u.2.1 u.1).1]
  rcases hf : foundQ M u.2.1 u.1 with _ | _
  · simp only [hf, Bool.false_eq_true, if_false] at hV ⊢
    have hfL : foundQ L u.2.1 u.1 = false := by rw [(hA _ _).1, hf]
    intro p q
    rcases hi : isOf p q u with _ | _
    · obtain ⟨a1, a2⟩ := hA p q
      have e1 : foundQ (L ++ [u]) p q = foundQ L p q := by rw [found_app, hi, Bool.or_false]
      rcases hfp : foundQ M p q with _ | _
      · have e2 : foundQ (insT M (place M u) u) p q = false := found_not.2 fun x hx => by
          rcases insT_mem.1 hx with hx | hx
          · exact found_not.1 hfp x hx
          · rw [← hx] at hi; simp [isOf] at hi
        have e3 : foundQ (L ++ [u]) p q = false := by rw [e1, a1, hfp]
        exact ⟨by rw [e3, e2], by rw [found_zero e3, found_zero e2]⟩
      · have hm := insT_mem (k := place M u) (u := u) |>.2 (.inl ((found_iff h.1).1 ⟨hfp, rfl⟩))
        obtain ⟨e2, e3⟩ := (found_iff hV.1).2 hm
        exact ⟨by rw [e1, a1, hfp, e2], by rw [found_app_old (by rw [a1, hfp]), a2, e3]⟩
    · have hpq : p = u.2.1 ∧ q = u.1 := by
        simp only [isOf, decide_eq_true_eq] at hi
        exact ⟨hi.1.symm, hi.2.symm⟩
      obtain ⟨rfl, rfl⟩ := hpq
      have hm : (u.1, u.2.1, u.2.2) ∈ insT M (place M u) u := insT_mem.2 (.inr rfl)
      obtain ⟨e2, e3⟩ := (found_iff hV.1).2 hm
      exact ⟨by rw [found_app, hi, Bool.or_true, e2], by rw [found_app_new hfL hi, e3]⟩
  · simpa using hA
theorem put_len (L : List B3) (u : B3) : (putL L u).length ≤ L.length + 1 := by
  unfold putL
  split <;> simp

set_option maxHeartbeats 3200000 in
theorem implTallyAdd_go (a b x : Int) (A : Option Addr) (c : Nat) (vs : List B3) (w : World) (hr : Rd3 w w.heap.size A vs) (hn : vs.length ≤ 1048576) :
    Calls Try.prog 51 #[.agg #[.slice A vs.length c], .agg #[.int .i64 a, .int .i64 b, .int .i64 x]] w (TG (addU vs (a, b, x)) (addQ vs (a, b, x)) w) := by
  have kt := ((Blk.new w 44 #[.slice A vs.length c]).alloc (.cells #[.int .i64 a, .int .i64 b, .int .i64 x] 61)).alloc (.cells #[.slice none 0 0] 44)
  have kb := (Blk.new (w.alloc (.cells #[.slice A vs.length c] 44)) 61 #[.int .i64 a, .int .i64 b, .int .i64 x]).alloc (.cells #[.slice none 0 0] 44)
  have kz := Blk.new ((w.alloc (.cells #[.slice A vs.length c] 44)).alloc (.cells #[.int .i64 a, .int .i64 b, .int .i64 x] 61)) 44 #[.slice none 0 0]
  simp only [World.size_alloc] at kb kz
  have hB0 : Below w.heap.size w (((w.alloc (.cells #[.slice A vs.length c] 44)).alloc (.cells #[.int .i64 a, .int .i64 b, .int .i64 x] 61)).alloc (.cells #[.slice none 0 0] 44)) := up_ (up_ (up_ (Below.refl _ _) _) _) _
  have hr0 := ((hr.up (.cells #[.slice A vs.length c] 44)).up (.cells #[.int .i64 a, .int .i64 b, .int .i64 x] 61)).up (.cells #[.slice none 0 0] 44)
  have HR := Lib.hid hr0; clear hr0 hr
  rcases hq : tallyOkB vs with _ | _
  · have e1 : addQ vs (a, b, x) = false := by simp [addQ, hq]
    have e2 : addU vs (a, b, x) = [] := by simp [addU, hq]
    rw [e1, e2]; clear e1 e2
    go_enter Try.func51, Try.ntmps51
    go_wp2_with fail
    refine (ballotsOf_no A c vs hq _ HR.out hn).mono ?_
    rintro e w1 ⟨rfl, hb1⟩
    have rz1 := (kz.on hb1).rule
    have fz1 := fun i => (kz.on hb1).frozen i
    have kz2 := (kz.on hb1).set_ 0 (.slice none 0 0)
    have rz2 := kz2.rule
    have hB1 := on_ hB0 hb1
    have hs1 := hb1.size
    simp only [World.size_alloc] at hs1
    clear hb1 HR
    go_wp2
    refine bodyPost_ret (v := .tuple #[.agg #[.slice none 0 0], .bool false]) (by simp [results, Try.results51, go_sem, rz2]) rfl ?_
    exact ⟨none, 0, rfl, OT.nil_, Below.setCell hB1 (by first | (simp; done) | (simp; omega)) _⟩
  · rcases hu : b3Ok (a, b, x) with _ | _
    · have e1 : addQ vs (a, b, x) = false := by simp [addQ, hu]
      have e2 : addU vs (a, b, x) = [] := by simp [addU, hu]
      rw [e1, e2]; clear e1 e2
      go_enter Try.func51, Try.ntmps51
      go_wp2_with fail
      refine (ballotsOf_yes A c vs hq _ HR.out hn).mono ?_
      rintro e w0 ⟨g, rfl, hg, hbal, hb0⟩
      have kb0 := kb.on hb0
      have rb0 := kb0.rule
      go_wp2_with fail
      refine (implBallot_is false a b x hu _).mono ?_
      rintro e w1 ⟨rfl, hb1'⟩
      have hb1 := on_ hb0 hb1'
      have rz1 := (kz.on hb1).rule
      have fz1 := fun i => (kz.on hb1).frozen i
      have kz2 := (kz.on hb1).set_ 0 (.slice none 0 0)
      have rz2 := kz2.rule
      have hB1 := on_ hB0 hb1
      have hs1 := hb1.size
      simp only [World.size_alloc] at hs1
      clear hb0 hb1 hb1' HR
      go_wp2
      refine bodyPost_ret (v := .tuple #[.agg #[.slice none 0 0], .bool false]) (by simp [results, Try.results51, go_sem, rz2]) rfl ?_
      exact ⟨none, 0, rfl, OT.nil_, Below.setCell hB1 (by first | (simp; done) | (simp; omega)) _⟩
    · have hV := val_of hq
      have hal := put_alike (Alike.refl vs) hV hu
      have hU : tabL (putL vs (a, b, x)) = addU vs (a, b, x) := by
        rw [tabL_alike hal, tabL_self (addT_val hV hu)]
        simp [addU, addT, hq, hu]
      have hQ : addQ vs (a, b, x) = !foundQ vs b a := by simp [addQ, hq, hu, pl_of hV.1]
      obtain ⟨hw1, hw2, hw3⟩ := wf_of_ok hu
      rw [hQ, ← hU]
      have hlk : vs.length < maxLen := by simp only [maxLen]; omega
      clear hU hal hV hQ
      go_enter Try.func51, Try.ntmps51
      go_wp2_with fail
      refine (ballotsOf_yes A c vs hq _ HR.out hn).mono ?_
      rintro e w0 ⟨g, rfl, hg, hbal, hb0⟩
      have kb0 := kb.on hb0
      have rb0 := kb0.rule
      simp only [World.size_alloc] at hg
      go_wp2_with fail
      refine (implBallot_is true a b x hu _).mono ?_
      rintro e w1 ⟨rfl, hb1'⟩
      have hb1 := on_ hb0 hb1'
      have kb1 := kb.on hb1
      have rb1 := kb1.rule
      have hbal1 := hbal.on hb1'
      go_wp2_with fail
      refine (add_any g vs a b x hw1 hw2 hw3 hlk w1 hbal1).mono ?_
      rintro e w2 ⟨rfl, hbal2, hg2⟩
      have hs1 := hb1.size
      simp only [World.size_alloc] at hs1
      have kz2 := keepK (kz.on hb1) hg2 (fun e => by injection e with e; omega)
      have hB2 := (on_ hB0 hb1).grown hg2 (by omega) (fun j hj => by injection hj with hj; omega)
      have hs2 := hg2.size
      clear hb0 hb1 hb1' HR
      go_wp2_with fail
      refine (tally_any (some g) (putL vs (a, b, x)) w2 hbal2).mono ?_
      rintro e w3 ⟨B4, d4, rfl, hot, hb3⟩
      have kz3 := kz2.on hb3
      have hB3 := on_ hB2 hb3
      have hs3 := hb3.size
      have rz3 := kz3.rule
      have fz3 := fun i => kz3.frozen i
      have kz4 := kz3.set_ 0 (.slice B4 (tabL (putL vs (a, b, x))).length d4)
      have rz4 := kz4.rule
      go_wp2
      refine bodyPost_ret (v := .tuple #[.agg #[.slice B4 (tabL (putL vs (a, b, x))).length d4], .bool (!foundQ vs b a)]) (by simp [results, Try.results51, go_sem, rz4]) rfl ?_
      exact ⟨B4, d4, rfl, OT.set_ (base := w.heap.size + 3) (hot.more (by omega)) (by first | (simp; done) | (simp; omega)) _ |>.more (by omega), Below.setCell hB3 (by first | (simp; done) | (simp; omega)) _⟩

theorem implTallyAdd_any (a b x : Int) (A : Option Addr) (c : Nat) (vs : List B3) (w : World) (hr : Rd3 w w.heap.size A vs) (hn : vs.length ≤ 1048576) (hnc : vs.length ≤ c) :
    Calls Try.prog 51 #[.agg #[.slice A vs.length c], .agg #[.int .i64 a, .int .i64 b, .int .i64 x]] w (TG (addU vs (a, b, x)) (addQ vs (a, b, x)) w) :=
  implTallyAdd_go a b x A c vs w hr hn

/-- What the map holds behind the first i ballots of us. -/
def putK (vs us : List B3) (i : Nat) : List B3 := (us.take i).foldl putL vs
theorem putK_step (vs us : List B3) (i : Nat) (h : i < us.length) : putK vs us (i + 1) = putL (putK vs us i) (us.getD i z3) := by
  unfold putK
  rw [take_get us z3 i h, List.foldl_append]; rfl
theorem putK_len (vs us : List B3) : ∀ i, i ≤ us.length → (putK vs us i).length ≤ vs.length + i
  | 0, _ => by simp [putK]
  | i + 1, h => by
    rw [putK_step vs us i (by omega)]
    have h1 := put_len (putK vs us i) (us.getD i z3)
    have h2 := putK_len vs us i (by omega)
    omega
theorem putK_alike {vs us : List B3} (h1 : tallyOkB vs = true) (h2 : tallyOkB us = true) : ∀ i, i ≤ us.length → Alike (putK vs us i) (joinK vs us i) ∧ Val3 (joinK vs us i)
  | 0, _ => by simpa [putK, joinK] using ⟨Alike.refl vs, val_of h1⟩
  | i + 1, h => by
    obtain ⟨a, b⟩ := putK_alike h1 h2 i (by omega)
    rw [putK_step vs us i (by omega), joinK_step vs us i (by omega)]
    have ho := ok_of h2 i (by omega)
    exact ⟨put_alike a b ho, addT_val b ho⟩
set_option maxHeartbeats 3200000 in
theorem implJoined_any (A B : Option Addr) (c d : Nat) (vs us : List B3) (w : World) (hr : Rd3 w w.heap.size A vs) (hs : Rd3 w w.heap.size B us) (hn : vs.length ≤ 1048576) (hm : us.length ≤ 1048576) :
    Calls Try.prog 28 #[.agg #[.slice A vs.length c], .agg #[.slice B us.length d]] w (TG (joinU vs us) (joinQ vs us) w) := by
  have kt := ((Blk.new w 44 #[.slice A vs.length c]).alloc (.cells #[.slice B us.length d] 44)).alloc (.cells #[.slice none 0 0] 44)
  have kb := (Blk.new (w.alloc (.cells #[.slice A vs.length c] 44)) 44 #[.slice B us.length d]).alloc (.cells #[.slice none 0 0] 44)
  have kz := Blk.new ((w.alloc (.cells #[.slice A vs.length c] 44)).alloc (.cells #[.slice B us.length d] 44)) 44 #[.slice none 0 0]
  simp only [World.size_alloc] at kb kz
  have hB0 : Below w.heap.size w (((w.alloc (.cells #[.slice A vs.length c] 44)).alloc (.cells #[.slice B us.length d] 44)).alloc (.cells #[.slice none 0 0] 44)) := up_ (up_ (up_ (Below.refl _ _) _) _) _
  have hr0 := ((hr.up (.cells #[.slice A vs.length c] 44)).up (.cells #[.slice B us.length d] 44)).up (.cells #[.slice none 0 0] 44)
  have HR := Lib.hid hr0; clear hr0 hr
  have hs0 := ((hs.up (.cells #[.slice A vs.length c] 44)).up (.cells #[.slice B us.length d] 44)).up (.cells #[.slice none 0 0] 44)
  have HS := Lib.hid hs0; clear hs0 hs
  rcases hq : tallyOkB vs with _ | _
  · have e1 : joinQ vs us = false := by simp [joinQ, hq]
    have e2 : joinU vs us = [] := by simp [joinU, e1]
    rw [e1, e2]; clear e1 e2
    go_enter Try.func28, Try.ntmps28
    go_wp2_with fail
    refine (ballotsOf_no A c vs hq _ HR.out hn).mono ?_
    rintro e w1 ⟨rfl, hb1⟩
    have rz1 := (kz.on hb1).rule
    have fz1 := fun i => (kz.on hb1).frozen i
    have kz2 := (kz.on hb1).set_ 0 (.slice none 0 0)
    have rz2 := kz2.rule
    have hB1 := on_ hB0 hb1
    have hs1 := hb1.size
    simp only [World.size_alloc] at hs1
    clear hb1 HR
    go_wp2
    refine bodyPost_ret (v := .tuple #[.agg #[.slice none 0 0], .bool false]) (by simp [results, Try.results28, go_sem, rz2]) rfl ?_
    exact ⟨none, 0, rfl, OT.nil_, Below.setCell hB1 (by first | (simp; done) | (simp; omega)) _⟩
  · rcases hu : tallyOkB us with _ | _
    · have e1 : joinQ vs us = false := by simp [joinQ, hu]
      have e2 : joinU vs us = [] := by simp [joinU, e1]
      rw [e1, e2]; clear e1 e2
      go_enter Try.func28, Try.ntmps28
      go_wp2_with fail
      refine (ballotsOf_yes A c vs hq _ HR.out hn).mono ?_
      rintro e w0 ⟨g, rfl, hg, hbal, hb0⟩
      have kb0 := kb.on hb0
      have rb0 := kb0.rule
      go_wp2_with fail
      refine (implTallyOk_is false B d us hu _ (HS.out.on hb0) hm).mono ?_
      rintro e w1 ⟨rfl, hb1'⟩
      have hb1 := on_ hb0 hb1'
      have rz1 := (kz.on hb1).rule
      have fz1 := fun i => (kz.on hb1).frozen i
      have kz2 := (kz.on hb1).set_ 0 (.slice none 0 0)
      have rz2 := kz2.rule
      have hB1 := on_ hB0 hb1
      have hs1 := hb1.size
      simp only [World.size_alloc] at hs1
      clear hb0 hb1 hb1' HR
      go_wp2
      refine bodyPost_ret (v := .tuple #[.agg #[.slice none 0 0], .bool false]) (by simp [results, Try.results28, go_sem, rz2]) rfl ?_
      exact ⟨none, 0, rfl, OT.nil_, Below.setCell hB1 (by first | (simp; done) | (simp; omega)) _⟩
    · obtain ⟨hal, hV⟩ := putK_alike hq hu us.length (Nat.le_refl _)
      have hU : tabL (putK vs us us.length) = joinU vs us := by
        rw [tabL_alike hal, tabL_self hV, joinK_all]
        simp [joinU, joinQ, hq, hu]
      have hQ : joinQ vs us = true := by simp [joinQ, hq, hu]
      rw [hQ, ← hU]
      clear hal hV hU hQ
      have hlk := putK_len vs us
      have hst := putK_step vs us
      have hwf := fun i hi => wf_of_ok (ok_of hu i hi)
      have hok := implTallyOk_is true B d us hu
      obtain ⟨n, hvn⟩ : ∃ n, us.length = n := ⟨_, rfl⟩
      rw [hvn] at hm hlk hst hwf hok kt kb kz hB0 HR HS ⊢
      have HLK := Lib.hid hlk; clear hlk
      have HST := Lib.hid hst; clear hst
      have HWF := Lib.hid hwf; clear hwf hu
      have HOK := Lib.hid hok; clear hok
      have HV := Lib.hid hvn; clear hvn
      go_enter Try.func28, Try.ntmps28
      go_wp2_with fail
      refine (ballotsOf_yes A c vs hq _ HR.out hn).mono ?_
      rintro e w0 ⟨g, rfl, hg, hbal, hb0⟩
      have kb0 := kb.on hb0
      have rb0 := kb0.rule
      simp only [World.size_alloc] at hg
      go_wp2_with fail
      refine (HOK.out _ (HS.out.on hb0) hm).mono ?_
      rintro e w1 ⟨rfl, hb1'⟩
      have hb1 := on_ hb0 hb1'
      have kb1 := kb.on hb1
      have rb1 := kb1.rule
      have hbal1 := hbal.on hb1'
      have hs1 := hb1.size
      simp only [World.size_alloc] at hs1
      have hbs : Below (w.heap.size + 3) (((w.alloc (.cells #[.slice A vs.length c] 44)).alloc (.cells #[.slice B n d] 44)).alloc (.cells #[.slice none 0 0] 44)) w1 := hb1.mono (by simp)
      have HB : Hid (∀ wr, Below (w.heap.size + 3) (((w.alloc (.cells #[.slice A vs.length c] 44)).alloc (.cells #[.slice B n d] 44)).alloc (.cells #[.slice none 0 0] 44)) wr → Blk wr (w.heap.size + 1) 44 #[.slice B n d] ∧ Blk wr (w.heap.size + 1 + 1) 44 #[.slice none 0 0] ∧ Below w.heap.size w wr ∧ Rd3 wr wr.heap.size B us ∧ w.heap.size + 3 ≤ wr.heap.size) := fun wr h =>
        ⟨kb.below h (by omega), kz.below h (by omega), hB0.trans (h.mono (by omega)), (HS.out.below (by simpa using h)).more (by have := h.size; simpa using this), by have := h.size; simpa using this⟩
      clear hb0 hb1 hb1' HR hbal kb0 rb0
      go_wp2
      go_loopw [26] (fun i wr => ∃ (k : Nat), k ≤ n ∧ i = .int .i64 k ∧ Bals wr (.map (some g)) (putK vs us k) ∧ Below (w.heap.size + 3) (((w.alloc (.cells #[.slice A vs.length c] 44)).alloc (.cells #[.slice B n d] 44)).alloc (.cells #[.slice none 0 0] 44)) wr) (fun i _ => n - (intOf i).toNat)
      case atStart => exact ⟨0, Nat.zero_le _, rfl, by simpa [putK] using hbal1, hbs⟩
      case round =>
        clear rb1 kb1 hbal1 hbs
        obtain ⟨k, hk, rfl, hbk, hbel⟩ := hrel
        obtain ⟨kbr, kzr, hBr, hrr, hsz⟩ := HB.out wr hbel
        by_cases hlt : k < n
        · obtain ⟨bb, off, rfl, hb, hc0, hc1, hc2⟩ := Rd3.at_ hrr (k := k) (by rw [HV.out]; omega)
          obtain ⟨hw1, hw2, hw3⟩ := HWF.out k hlt
          have hst := HST.out k hlt
          have hlk : (putK vs us k).length < maxLen := by have := HLK.out k (by omega); simp only [maxLen]; omega
          obtain ⟨⟨ua, ub, uc⟩, hu⟩ : ∃ v, us.getD k z3 = v := ⟨_, rfl⟩
          rw [hu] at hc0 hc1 hc2 hw1 hw2 hw3 hst
          clear hu hrr
          have HST2 := Lib.hid hst; clear hst
          have kx : Blk (wr.alloc (.cells #[.int .i64 ua, .int .i64 ub, .int .i64 uc] 61)) wr.heap.size 61 #[.int .i64 ua, .int .i64 ub, .int .i64 uc] := Blk.new wr _ _
          have rx := kx.rule
          have hba := hbk.alloc (.cells #[.int .i64 ua, .int .i64 ub, .int .i64 uc] 61)
          have hbx := hbel.alloc hsz (.cells #[.int .i64 ua, .int .i64 ub, .int .i64 uc] 61)
          clear hbk
          go_wp2_with fail
          refine (add_any g (putK vs us k) ua ub uc hw1 hw2 hw3 hlk _ hba).mono ?_
          rintro e w2 ⟨rfl, hb2, hg2⟩
          go_wp2
          go_roundw
          case rel => exact ⟨k + 1, by omega, by go_num, by rw [HST2.out]; exact hb2, hbx.grown hg2 (by simp; omega) (fun j hj => by injection hj with hj; omega)⟩
          case measure => simp [intOf]; omega
        · obtain rfl : k = n := by omega
          clear hrr kbr
          go_wp2_with fail
          refine (tally_any (some g) (putK vs us k) _ hbk).mono ?_
          rintro e w3 ⟨B4, d4, rfl, hot, hb3⟩
          have kz3 := kzr.on hb3
          have hB3 := on_ hBr hb3
          have hs3 := hb3.size
          have rz3 := kz3.rule
          have fz3 := fun i => kz3.frozen i
          have kz4 := kz3.set_ 0 (.slice B4 (tabL (putK vs us k)).length d4)
          have rz4 := kz4.rule
          go_wp2
          refine bodyPost_ret (v := .tuple #[.agg #[.slice B4 (tabL (putK vs us k)).length d4], .bool true]) (by simp [results, Try.results28, go_sem, rz4]) rfl ?_
          exact ⟨B4, d4, rfl, OT.set_ (base := w.heap.size + 3) (hot.more (by omega)) (by first | (simp; done) | (simp; omega)) _ |>.more (by omega), Below.setCell hB3 (by first | (simp; done) | (simp; omega)) _⟩
end Go.Proofs.Ytaegcdbgnjlbdaa.V
