/-
  Accepted of the program: contract. No statement is proved here.
-/
import Derived.Test.YtfebeafonifpdaaAcc
import Derived.Test.YtfebeafonifpdaaImplWin
set_option linter.unusedVariables false
set_option maxRecDepth 100000
namespace Go.Proofs.Ytfebeafonifpdaa.V
open Go.RowKit Go.Proofs.Ytfebeafonifpdaa.B

set_option maxHeartbeats 3200000 in
theorem implAcc_any (n : Int) (A : Option Addr) (c : Nat) (rs : List B3) (seq : Int) (w : World) (hr : Rd3 w w.heap.size A rs) (hn : rs.length ≤ 1048576) :
    Calls Try.prog 34 #[.int .i64 n, .slice A rs.length c, .int .i64 seq] w fun e w' => e = .returned (.tuple #[.int .i64 (winV (accW n rs seq)), .bool (accW n rs seq).isSome]) ∧ Below w.heap.size w w' := by
  have hmm := @run_makeMap Try.prog
  have HR := Lib.hid hr
  clear hr
  rcases hs : sizeB n with _ | _
  · have e : accW n rs seq = none := acc_no (by simp [accQ, hs])
    rw [e]
    have HS := Lib.hid hs; clear hs e hmm
    go_enter Try.func34, Try.ntmps34
    go_wp2_with fail
    refine (implSize_is n false HS.out _).mono ?_
    rintro e w1 ⟨rfl, h9⟩; obtain rfl := h9.symm
    go_wp2
    go_ret2
    exact ⟨rfl, Below.refl _ _⟩
  rcases hv : viewB seq with _ | _
  · have e : accW n rs seq = none := acc_no (by simp [accQ, hv])
    rw [e]
    have HS := Lib.hid hs; have HV := Lib.hid hv; clear hs hv e hmm
    go_enter Try.func34, Try.ntmps34
    go_wp2_with fail
    refine (implSize_is n true HS.out _).mono ?_
    rintro e w1 ⟨rfl, h9⟩; obtain rfl := h9.symm
    go_wp2_with fail
    refine (implView3_is seq false HV.out _).mono ?_
    rintro e w1 ⟨rfl, h9⟩; obtain rfl := h9.symm
    go_wp2
    go_ret2
    exact ⟨rfl, Below.refl _ _⟩
  obtain ⟨o, ho⟩ : ∃ o, accW n rs seq = o := ⟨_, rfl⟩
  rw [ho]
  have HO := Lib.hid ho
  have HS := Lib.hid hs; have HV := Lib.hid hv
  have hvw : wfI seq := by
    have h1 : 0 ≤ seq ∧ seq ≤ 9 := by unfold viewB at hv; exact of_decide_eq_true hv
    exact (wf_of_ok (u := (0, seq, 1)) (by unfold b3Ok; simp [hv, valB])).2.1
  have HVW := Lib.hid hvw
  clear hs hv ho hvw
  have hlen := putK_len [] rs
  have hstep := putK_step [] rs
  obtain ⟨m, hmu⟩ : ∃ m, rs.length = m := ⟨_, rfl⟩
  rw [hmu] at hlen hstep hn ⊢
  have HMU := Lib.hid hmu; have HLEN := Lib.hid hlen; have HSTEP := Lib.hid hstep
  clear hmu hlen hstep
  have HBAD : Hid (∀ j, j < m → accB n (rs.getD j z3) = false → o = none) := fun j hj hb => by rw [← HO.out]; exact acc_no (acc_bad (by rw [HMU.out]; exact hj) hb)
  have HFIN : Hid ((∀ j, j < m → accB n (rs.getD j z3) = true) → winnerK (tabL (putK [] rs m)) seq (weakR n) = o ∧ (tabL (putK [] rs m)).length ≤ 1048576) := fun h => by
    obtain ⟨hal, hV⟩ := acc_alike (n := n) (rs := rs) m (by rw [HMU.out]; exact Nat.le_refl _) h
    have h2 := acc_all (seq := seq) HS.out HV.out (by rw [HMU.out]; exact h)
    have hw : (1 : Int) ≤ weakR n := by rcases size_two HS.out with rfl | rfl <;> decide
    have htb : tabL (putK [] rs m) = joinK [] rs m := by rw [tabL_alike hal, tabL_self hV]
    have hok := tallyOk_of hV
    refine ⟨?_, by rw [htb]; have := tally_len hok; omega⟩
    rw [← HO.out, htb]
    unfold accW winnerK
    rw [if_pos h2, if_pos ⟨hok, hw⟩, ← joinK_all, HMU.out]
  go_enter Try.func34, Try.ntmps34
  go_wp2_with fail
  refine (implSize_is n true HS.out _).mono ?_
  rintro e w1 ⟨rfl, h9⟩; obtain rfl := h9.symm
  go_wp2_with fail
  refine (implView3_is seq true HV.out _).mono ?_
  rintro e w1 ⟨rfl, h9⟩; obtain rfl := h9.symm
  go_wp2
  go_loopw [22] (fun i wr => ∃ (k : Nat), k ≤ m ∧ i = .int .i64 k ∧ Hid (∀ j, j < k → accB n (rs.getD j z3) = true) ∧ Bals wr (.map (some w.heap.size)) (putK [] rs k) ∧ Below w.heap.size w wr) (fun i _ => m - (intOf i).toNat)
  case atStart => exact ⟨0, Nat.zero_le _, rfl, fun j hj => absurd hj (by omega), .inr ⟨_, _, rfl, World.ownsMap_made _ _ _ _, holds_nil⟩, (Below.refl _ _).alloc (Nat.le_refl _) _⟩
  case round =>
    clear hmm
    obtain ⟨k, hk, rfl, hall, hbk, hbel⟩ := hrel
    have hwz := hbel.size
    have hgz := hbk.lt _ rfl
    by_cases hlt : k < m
    · obtain ⟨bl, off, hA, hb, hc0, hc1, hc2⟩ := Rd3.at_ (HR.out.below hbel) (k := k) (by rw [HMU.out]; exact hlt)
      subst hA
      obtain ⟨⟨ua, ub, uc⟩, hu⟩ : ∃ v, rs.getD k z3 = v := ⟨_, rfl⟩
      rw [hu] at hc0 hc1 hc2
      have hi1 : (k : Int) < (m : Int) := by omega
      have kx : Blk (wr.alloc (.cells #[.int .i64 ua, .int .i64 ub, .int .i64 uc] 54)) wr.heap.size 54 #[.int .i64 ua, .int .i64 ub, .int .i64 uc] := Blk.new wr _ _
      have rx := kx.rule
      have hbx := hbel.alloc hwz (.cells #[.int .i64 ua, .int .i64 ub, .int .i64 uc] 54)
      rcases hbo : b3Ok (ua, ub, uc) with _ | _
      · have HN := Lib.hid (HBAD.out k hlt (by rw [hu]; simp [accB, hbo]))
        have HBO := Lib.hid hbo; clear hu hbo
        go_wp2_with fail
        refine (implBallot_is false ua ub uc HBO.out _).mono ?_
        rintro e w4 ⟨rfl, hb4⟩
        go_wp2
        go_ret2
        exact ⟨by rw [HN.out]; rfl, hbx.trans (hb4.mono (by simp; omega))⟩
      · by_cases hfr : n ≤ ua
        · have HN := Lib.hid (HBAD.out k hlt (by rw [hu]; simp [accB]; omega))
          have HBO := Lib.hid hbo; clear hu hbo
          go_wp2_with fail
          refine (implBallot_is true ua ub uc HBO.out _).mono ?_
          rintro e w4 ⟨rfl, hb4⟩
          have rx4 := (kx.on hb4).rule
          go_wp2
          go_ret2
          exact ⟨by rw [HN.out]; rfl, hbx.trans (hb4.mono (by simp; omega))⟩
        · have hfr' : ua < n := by omega
          have HALL : Hid (∀ j, j < k + 1 → accB n (rs.getD j z3) = true) := fun j hj => by
            rcases Nat.lt_succ_iff_lt_or_eq.1 hj with h | h
            · exact hall.out j h
            · rw [h, hu]; unfold accB; rw [hbo, Bool.true_and]; exact decide_eq_true hfr'
          obtain ⟨hw1, hw2, hw3⟩ := wf_of_ok hbo
          have HBO := Lib.hid hbo
          have hst := HSTEP.out k hlt
          rw [hu] at hst
          have HST := Lib.hid hst
          have hlk : (putK [] rs k).length < maxLen := by have := HLEN.out k (by omega); simp at this; simp only [maxLen]; omega
          have hba := hbk.alloc (.cells #[.int .i64 ua, .int .i64 ub, .int .i64 uc] 54)
          clear hu hbo hst hfr hbk
          go_wp2_with fail
          refine (implBallot_is true ua ub uc HBO.out _).mono ?_
          rintro e w4 ⟨rfl, hb4⟩
          have rx4 := (kx.on hb4).rule
          have hba4 := hba.on hb4
          have hbx4 := hbx.trans (hb4.mono (by simp; omega))
          have hwz4 := hbx4.size
          clear rx hb4 hba hbx kx
          go_wp2_with fail
          refine (add_any w.heap.size (putK [] rs k) ua ub uc hw1 hw2 hw3 hlk _ hba4).mono ?_
          rintro e w5 ⟨rfl, hb5, hg5⟩
          go_wp2
          go_roundw
          case rel => exact ⟨k + 1, by omega, by go_num, HALL, by rw [HST.out]; exact hb5, hbx4.grown hg5 (by omega) (fun j hj => by injection hj with hj; omega)⟩
          case measure => simp [intOf]; omega
    · obtain rfl : k = m := by omega
      obtain ⟨hfin, hfl⟩ := HFIN.out hall.out
      have HF := Lib.hid hfin; clear hfin
      go_wp2_with fail
      refine (tally_any (some w.heap.size) (putK [] rs k) _ hbk).mono ?_
      rintro e w3 ⟨B4, d4, rfl, hot, hb3⟩
      have hbel3 := hbel.trans (hb3.mono hwz)
      have hwz3 := hbel3.size
      obtain ⟨ws, hws⟩ : ∃ ws, tabL (putK [] rs k) = ws := ⟨_, rfl⟩
      rw [hws] at hot hfl HF ⊢
      clear hws
      go_wp2_with fail
      refine (implWeak_any n _).mono ?_
      rintro e w1 ⟨rfl, h9⟩; obtain rfl := h9.symm
      have HW := Lib.hid (show ∀ wk, weakR n = wk → Calls Try.prog 80 #[.agg #[.slice B4 ws.length d4], .int .i64 seq, .int .i64 wk] w3 fun e w' => e = .returned (.tuple #[.int .i64 (winV o), .bool o.isSome]) ∧ Below w3.heap.size w3 w' from fun wk hwk => by rw [← hwk, ← HF.out]; exact implWinner_any seq (weakR n) HVW.out B4 d4 ws w3 hot.rd hfl)
      go_wp2_with fail
      refine (HW.out _ rfl).mono ?_
      rintro e w5 ⟨rfl, hb5⟩
      go_wp2
      go_ret2
      exact ⟨rfl, hbel3.trans (hb5.mono hwz3)⟩
end Go.Proofs.Ytfebeafonifpdaa.V
