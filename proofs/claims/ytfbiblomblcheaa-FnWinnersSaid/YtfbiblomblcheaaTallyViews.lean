/-
  ViewsIn of the model: its contract. No statement is proved here.
-/
import Derived.Test.YtfbiblomblcheaaTallyVoters
set_option linter.unusedVariables false
set_option maxRecDepth 100000
namespace Go.Proofs.Ytfbiblomblcheaa.V
open Go.RowKit Go.Proofs.Ytfbiblomblcheaa.B

def newAt (vs : List B3) (i : Nat) : Bool := decide (i = 0) || decide ((vs.getD (i - 1) z3).2.1 ≠ (vs.getD i z3).2.1)
def viewsK (vs : List B3) (k : Nat) : List Int := ((List.range k).filter (newAt vs)).map fun i => (vs.getD i z3).2.1
theorem viewsK_step (vs : List B3) (k : Nat) : viewsK vs (k + 1) = viewsK vs k ++ (if newAt vs k then [(vs.getD k z3).2.1] else []) := by
  unfold viewsK
  rw [List.range_succ, List.filter_append, List.map_append]
  congr 1
  rcases h1 : newAt vs k with _ | _ <;> simp [List.filter, h1]
theorem viewsK_le (vs : List B3) (k : Nat) : (viewsK vs k).length ≤ k := by
  simp only [viewsK, List.length_map]
  exact Nat.le_trans (List.length_filter_le _ _) (by simp)

theorem own_onB {w w' : World} {b e size n : Nat} {v : Value} {xs : List Value} (h : w.ownsRow b e size v n xs) (hb : Below w.heap.size w w') : w'.ownsRow b e size v n xs := by
  obtain ⟨hl, h⟩ := h
  refine ⟨hl, ?_⟩
  rcases h with h1 | ⟨g, cap, cur, h1, h2, h3, h4⟩
  · exact .inl h1
  · exact .inr ⟨g, cap, cur, h1, h2, (hb.block g (Array.getElem?_eq_some_iff.1 h3).1).trans h3, h4⟩
set_option maxHeartbeats 1600000 in
theorem specViews_yes (A : Option Addr) (c : Nat) (vs : List B3) (hq : tallyOkB vs = true) (w : World) (hr : Rd3 w w.heap.size A vs) (hn : vs.length ≤ 1048576) :
    Calls Try.prog 54 #[.agg #[.slice A vs.length c]] w (NRes (viewsK vs vs.length) w) := by
  obtain ⟨i0, hi0, hz0, hz1, hz2⟩ := info_parts infoI
  obtain ⟨n, hvn⟩ : ∃ n, vs.length = n := ⟨_, rfl⟩
  have hok := fun W h => specTallyOk_is true A c vs hq W h hn
  rw [hvn] at hn hok ⊢
  have HOK := Lib.hid hok; clear hok hq
  have HV := Lib.hid hvn; clear hvn
  have HB := Lib.hid (tally_box w A n c)
  have hr0 := hr.up (.cells #[.slice A n c] 29)
  have hs0 : (w.alloc (.cells #[.slice A n c] 29)).heap.size = w.heap.size + 1 := by simp
  have HR : Hid (∀ wr, Below (w.heap.size + 1) (w.alloc (.cells #[.slice A n c] 29)) wr → Rd3 wr w.heap.size A vs ∧ w.heap.size + 1 ≤ wr.heap.size) := fun wr h => ⟨hr.below (HB.out wr h).2, by have := h.size; omega⟩
  clear hs0 hr
  go_enter Try.func54, Try.ntmps54
  go_wp2_with fail
  refine (HOK.out _ hr0).mono ?_
  rintro e w1 ⟨rfl, hb1⟩
  have hbl1 : Below (w.heap.size + 1) (w.alloc (.cells #[.slice A n c] 29)) w1 := by simpa using hb1
  have rb1 := (HB.out w1 hbl1).1.rule
  clear hb1 hr0
  go_wp2
  go_loopw [3, 4] (fun out i wr => ∃ (k : Nat) (xs : List Int), k ≤ n ∧ i = .int .i64 k ∧ Hid (viewsK vs k = xs) ∧ xs.length ≤ k ∧ wr.ownsRow (w.heap.size + 1) 3 1 out xs.length (ic xs) ∧ Below (w.heap.size + 1) (w.alloc (.cells #[.slice A n c] 29)) wr) (fun _ i _ => n - (intOf i).toNat)
  case atStart => exact ⟨0, [], Nat.zero_le _, rfl, rfl, Nat.le_refl _, World.ownsRow_nil _ _ _ _, hbl1⟩
  case round =>
    clear rb1 hbl1
    obtain ⟨k, xs, hk, rfl, hxs, hxl, hown, hbel⟩ := hrel
    obtain ⟨kb, hbw⟩ := HB.out wr hbel
    obtain ⟨hr1, hsz⟩ := HR.out wr hbel
    have rb := kb.rule
    by_cases hlt : k < n
    · obtain ⟨b, off, rfl, hb, hc0, hc1, hc2⟩ := Rd3.at_ hr1 (k := k) (by rw [HV.out]; omega)
      have hpv : 0 < k → wr.cell? ⟨b, off + (k - 1) * 3 + 1, none⟩ = some (.int .i64 (vs.getD (k - 1) z3).2.1) := fun h0 => by
        obtain ⟨b', off', he, _, _, h2, _⟩ := Rd3.at_ hr1 (k := k - 1) (by rw [HV.out]; omega)
        injection he with he
        injection he with he1 he2
        subst he1 he2
        exact h2
      have hst := viewsK_step vs k
      rw [hxs.out] at hst
      obtain ⟨⟨ua, ub, uc⟩, hu⟩ : ∃ v, vs.getD k z3 = v := ⟨_, rfl⟩
      obtain ⟨⟨pa, pb, pc⟩, hp⟩ : ∃ v, vs.getD (k - 1) z3 = v := ⟨_, rfl⟩
      have hnew : newAt vs k = (decide (k = 0) || decide (pb ≠ ub)) := by unfold newAt; rw [hu, hp]
      rw [hu, hnew] at hst
      rw [hu] at hc0 hc1 hc2
      rw [hp] at hpv
      clear hu hp hr1 hnew
      have HST := Lib.hid hst; clear hst
      have T0 := fun x : Lat wr => x.cell (rb 0)
      have C1 := fun x : Lat wr => x.cell hc1
      by_cases h4 : 0 < k
      · have hp1 := hpv h4
        clear hpv
        obtain ⟨p, hkp⟩ : ∃ p, k = p + 1 := ⟨k - 1, by omega⟩
        have hE : (k : Int) - 1 = (p : Int) := by omega
        have hW : IntKind.i64.wrap (p : Int) = (p : Int) := IntWalk.i64_in _ (by omega)
        have hk0 : ((k : Int) == 0) = false := by simp; omega
        rw [show k - 1 = p by omega] at hp1
        have P1 := fun x : Lat wr => x.cell hp1
        have hw4 : (p : Int) < (n : Int) := by omega
        have hw5 : p < n := by omega
        have HK0 : Hid (¬ k = 0) := by show ¬ _; omega
        have HKP := Lib.hid hkp; clear hkp
        by_cases h5 : pb = ub
        · have hf : (pb != ub) = false := by simpa using h5
          have HN : Hid (viewsK vs (k + 1) = xs) := by show _ = _; rw [HST.out]; simp [h5, HK0.out]
          go_wp2
          refine wp_region_lat (by kernel_rfl) (by kernel_rfl) ?_
          repeat (go_big_quiet_step (fail))
          refine wpQuiet_nil ?_
          rintro w3 ⟨⟨_, hb3⟩, rfl⟩
          have hbel3 := hbel.trans (hb3.mono hsz)
          have hown3 := own_onB hown hb3
          have rb3 := (HB.out _ hbel3).1.rule
          have hsz3 := (HR.out _ hbel3).2
          have hc13 := (hb3.cell (World.block_lt_of_cell? wr _ hc1)).trans hc1
          clear T0 C1 P1 hp1 rb hc0 hc1 hc2 hb3 kb hsz hbw
          go_wp2
          go_roundw
          case rel => exact ⟨k + 1, xs, by omega, by go_num, HN, by omega, hown3, hbel3⟩
          case measure => simp [intOf]; omega
        · have hf : (pb != ub) = true := by simpa using h5
          have HN : Hid (viewsK vs (k + 1) = xs ++ [ub]) := by show _ = _; rw [HST.out]; simp [h5]
          go_wp2
          refine wp_region_lat (by kernel_rfl) (by kernel_rfl) ?_
          repeat (go_big_quiet_step (fail))
          refine wpQuiet_nil ?_
          rintro w3 ⟨⟨_, hb3⟩, rfl⟩
          have hbel3 := hbel.trans (hb3.mono hsz)
          have hown3 := own_onB hown hb3
          have rb3 := (HB.out _ hbel3).1.rule
          have hsz3 := (HR.out _ hbel3).2
          have hc13 := (hb3.cell (World.block_lt_of_cell? wr _ hc1)).trans hc1
          clear T0 C1 P1 hp1 rb hc0 hc1 hc2 hb3 kb hsz hbw
          go_wp2_with (at_builtin; refine wpList_append_any _ rfl (.tmp 33) (.tmp 40) 55 rfl (w.heap.size + 1) 3 i0 _ 1 8 Try.underlying55 hi0 hz0 hz1 hz2 rfl (by omega) u3 xs.length (ic xs) rfl (hown3.alloc _) _ _ 1 1 [.int .i64 ub] rfl (lit_int w3 _) (by simp [Value.oneCell']) (by simp only [maxLen]; omega) (by omega) (by simp; omega) ?_; intro v2 w2 hown2 hgr2 hat2; have hbel2 := (hbel3.alloc hsz3 _).grown hgr2 (by simp; omega) (fun j hj => (hown3.lt j hj).1))
          go_roundw
          case rel => exact ⟨k + 1, xs ++ [ub], by omega, by go_num, HN, by simp; omega, own_app1 hown2, hbel2⟩
          case measure => simp [intOf]; omega
      · clear hpv
        have hk0 : ((k : Int) == 0) = true := by simp; omega
        have HK0 : Hid (k = 0) := by show _ = _; omega
        have HN : Hid (viewsK vs (k + 1) = xs ++ [ub]) := by show _ = _; rw [HST.out]; simp [HK0.out]
        go_wp2
        refine wp_region_lat (by kernel_rfl) (by kernel_rfl) ?_
        repeat (go_big_quiet_step (fail))
        refine wpQuiet_nil ?_
        rintro w3 ⟨⟨_, hb3⟩, rfl⟩
        have hbel3 := hbel.trans (hb3.mono hsz)
        have hown3 := own_onB hown hb3
        have rb3 := (HB.out _ hbel3).1.rule
        have hsz3 := (HR.out _ hbel3).2
        have hc13 := (hb3.cell (World.block_lt_of_cell? wr _ hc1)).trans hc1
        clear T0 C1  rb hc0 hc1 hc2 hb3 kb hsz hbw
        go_wp2_with (at_builtin; refine wpList_append_any _ rfl (.tmp 33) (.tmp 40) 55 rfl (w.heap.size + 1) 3 i0 _ 1 8 Try.underlying55 hi0 hz0 hz1 hz2 rfl (by omega) u3 xs.length (ic xs) rfl (hown3.alloc _) _ _ 1 1 [.int .i64 ub] rfl (lit_int w3 _) (by simp [Value.oneCell']) (by simp only [maxLen]; omega) (by omega) (by simp; omega) ?_; intro v2 w2 hown2 hgr2 hat2; have hbel2 := (hbel3.alloc hsz3 _).grown hgr2 (by simp; omega) (fun j hj => (hown3.lt j hj).1))
        go_roundw
        case rel => exact ⟨k + 1, xs ++ [ub], by omega, by go_num, HN, by simp; omega, own_app1 hown2, hbel2⟩
        case measure => simp [intOf]; omega
    · obtain rfl : k = n := by omega
      go_wp2
      go_ret
      refine ⟨_, rfl, ?_, hbw⟩
      rw [hxs.out]
      exact own_more3 hown (by omega)

def viewsR (vs : List B3) : List Int := if tallyOkB vs then viewsK vs vs.length else []
theorem specViews_any (A : Option Addr) (c : Nat) (vs : List B3) (w : World) (hr : Rd3 w w.heap.size A vs) (hn : vs.length ≤ 1048576) :
    Calls Try.prog 54 #[.agg #[.slice A vs.length c]] w (NRes (viewsR vs) w) := by
  rcases hq : tallyOkB vs with _ | _
  · have e : viewsR vs = [] := by simp [viewsR, hq]
    rw [e]
    have hr0 := hr.up (.cells #[.slice A vs.length c] 29)
    have HR := Lib.hid hr0; clear hr0 hr
    have HQ := Lib.hid hq; clear hq e
    go_enter Try.func54, Try.ntmps54
    go_wp2_with fail
    refine (specTallyOk_is false A c vs HQ.out _ HR.out hn).mono ?_
    rintro e w1 ⟨rfl, hb1⟩
    have hB1 := on_ (up_ (Below.refl w.heap.size w) _) hb1
    clear hb1
    go_wp2
    go_ret
    exact no_ints _ _ hB1
  · have e : viewsR vs = viewsK vs vs.length := by simp [viewsR, hq]
    rw [e]
    exact specViews_yes A c vs hq w hr hn
end Go.Proofs.Ytfbiblomblcheaa.V
