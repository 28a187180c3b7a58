/-
  The law FnBounds, walked. No statement is proved here.
-/
import Derived.Test.YtikhakmddcmbpaaReports
set_option linter.unusedVariables false
set_option maxRecDepth 100000
namespace Go.Proofs.Ytikhakmddcmbpaa.V
open Go.RowKit Go.Proofs.Ytikhakmddcmbpaa.B

theorem at_det (A : Option Addr) (n c i : Nat) (hi : i ≤ 1000) (w : World) (hm : n ≤ maxLen) (hr : RdC w w.heap.size A n) :
    ∃ x : Nat, x ≤ 255 ∧ ∀ W, Below w.heap.size w W → Calls Try.prog 36 #[.slice A n c, .int .i64 i] W fun e w' => e = .returned (.int .i64 x) ∧ W = w' := by
  unfold maxLen at hm
  by_cases h0 : n = 0
  · subst h0
    refine ⟨0, by omega, fun W hW => ?_⟩
    clear hr hW
    go_enter Try.func36, Try.ntmps36
    go_wp2
    go_ret
    exact ⟨rfl, rfl⟩
  · obtain ⟨b, off, rfl, hb, hc⟩ := hr (by omega)
    obtain ⟨x, hx0, hx1, hx⟩ := hc (i % n) (Nat.mod_lt _ (by omega))
    obtain ⟨y, rfl⟩ : ∃ y : Nat, x = y := ⟨x.toNat, by omega⟩
    refine ⟨y, by omega, fun W hW => ?_⟩
    have hx := (hW.cell (p := ⟨b, off + i % n, none⟩) hb).trans hx
    have hlt : i % n < n := Nat.mod_lt _ (by omega)
    have hmod : (i : Int).tmod (n : Int) = ((i % n : Nat) : Int) := by rw [Int.tmod_eq_emod_of_nonneg (by omega)]; simp
    have hmod2 : (i : Int) % (n : Int) = ((i % n : Nat) : Int) := by simp
    have hnz : (n : Int) ≠ 0 := by omega
    have hz : ((n : Int) == 0) = false := by simpa using hnz
    generalize i % n = k at *
    clear hc hr hW
    go_enter Try.func36, Try.ntmps36
    go_wp2
    go_ret
    exact ⟨rfl, rfl⟩
theorem bounds_at (a u o : Nat) (ha : a < 4) (hu : u < a + 2) (ho : o < 4) :
    (∀ v : Nat, 1 ≤ v → v < 5 → safeT 4 (2 + (a : Int)) (bRs (2 + (a : Int)) u o) v = decide (v = 3)) ∧ chooseT 4 (2 + (a : Int)) (bRs (2 + (a : Int)) u o) 1 = (3, true) := by
  have h := bounds_all
  rw [List.all_eq_true] at h
  have h := h a (List.mem_range.2 ha)
  rw [List.all_eq_true] at h
  have h := h u (List.mem_range.2 (by omega))
  rw [List.all_eq_true] at h
  have h := h o (List.mem_range.2 ho)
  rw [show ((a + 2 : Nat) : Int) = 2 + (a : Int) by omega] at h
  simp only [Bool.or_eq_true, Bool.and_eq_true, Bool.not_eq_true', decide_eq_false_iff_not, decide_eq_true_eq] at h
  rcases h with h | ⟨h1, h2⟩
  · omega
  · refine ⟨fun v hv1 hv5 => ?_, h2⟩
    rw [List.all_eq_true] at h1
    have h3 := h1 v (List.mem_range.2 hv5)
    simp only [Bool.or_eq_true, decide_eq_true_eq, beq_iff_eq] at h3
    rcases h3 with h3 | h3
    · omega
    · exact h3
theorem choose_is_ (z : Int × Bool) (n view own : Int) (A : Option Addr) (c : Nat) (ps : List Pp) (hq : chooseT n view (rl ps) own = z) (w : World) (hr : RdR w w.heap.size A ps) (hf : Few ps) :
    Calls Try.prog 37 #[.int .i64 n, .int .i64 view, .slice A ps.length c, .int .i64 own] w fun e w' => e = .returned (.tuple #[.int .i64 z.1, .bool z.2]) ∧ Below w.heap.size w w' := by
  rw [← hq]; exact implChoose_any n view own A c ps _ rfl w hr hf
theorem lit_rep_at (w : World) (t : TypeId) (p : Pp) (g : Nat) (hg : w.heap.size = g) : Reads (w.alloc (.cells #[.int .i64 p.r.f, .int .i64 p.r.v, .int .i64 p.r.x, .slice p.A p.r.vs.length p.c] t)) (g + 1) 4 (some ⟨g, 0, none⟩) 1 (pc1 p) := by
  subst hg; exact lit_rep w t p
theorem bR_step (view u o : Int) (k : Nat) : (List.range (k + 1)).map (bR view u o) = (List.range k).map (bR view u o) ++ [bR view u o k] := by
  rw [List.range_succ, List.map_append]; rfl

set_option maxHeartbeats 3200000 in
theorem bounds_walk (A : Option Addr) (n c : Nat) (hm : n ≤ maxLen) (w : World) (hr : RdC w w.heap.size A n) :
    Calls Try.prog 6 #[.slice A n c] w fun e w' => e = .returned (.bool true) ∧ Below w.heap.size w w' := by
  obtain ⟨i0, hi0, hz0, hz1, hz2⟩ := info_parts infoR
  obtain ⟨x1, hx1, hc1⟩ := at_det A n c 1 (by omega) w hm hr
  obtain ⟨x2, hx2, hc2⟩ := at_det A n c 2 (by omega) w hm hr
  obtain ⟨x3, hx3, hc3⟩ := at_det A n c 3 (by omega) w hm hr
  obtain ⟨a, ha⟩ : ∃ a, x1 % 4 = a := ⟨_, rfl⟩
  obtain ⟨u, hu⟩ : ∃ u, x2 % (a + 2) = u := ⟨_, rfl⟩
  obtain ⟨o, ho⟩ : ∃ o, x3 % 4 = o := ⟨_, rfl⟩
  have ha4 : a < 4 := by omega
  have hu4 : u < a + 2 := by rw [← hu]; exact Nat.mod_lt _ (by omega)
  have ho4 : o < 4 := by omega
  have HB := Lib.hid (bounds_at a u o ha4 hu4 ho4)
  have ea : (x1 : Int) % 4 = (a : Int) := by omega
  have eu : (x2 : Int) % (2 + (a : Int)) = (u : Int) := by rw [← hu, show (2 : Int) + (a : Int) = ((a + 2 : Nat) : Int) by omega]; simp
  have eo : (x3 : Int) % 4 = (o : Int) := by omega
  have eat : (x1 : Int).tmod 4 = (a : Int) := by rw [Int.tmod_eq_emod_of_nonneg (by omega)]; exact ea
  have eut : (x2 : Int).tmod (2 + (a : Int)) = (u : Int) := by rw [Int.tmod_eq_emod_of_nonneg (by omega)]; exact eu
  have eot : (x3 : Int).tmod 4 = (o : Int) := by rw [Int.tmod_eq_emod_of_nonneg (by omega)]; exact eo
  have H1 := Lib.hid hc1
  have H2 := Lib.hid hc2
  have H3 := Lib.hid hc3
  clear hc1 hc2 hc3 ha hu ho hr hm
  have ev : ((2 + (a : Int)) == 0) = false := by simp; omega
  go_enter Try.func6, Try.ntmps6
  go_wp2_with fail
  refine (H1.out _ (Below.refl _ _)).mono ?_
  rintro e w1 ⟨rfl, rfl⟩
  go_wp2_with fail
  refine (H2.out _ (Below.refl _ _)).mono ?_
  rintro e w1 ⟨rfl, rfl⟩
  clear H1 H2
  go_wp2
  go_loopw [6, 7] (fun l i wr => ∃ (k : Nat) (qs : List Pp), k ≤ 4 ∧ i = .int .i64 k ∧ Hid (qs.length = k) ∧ Hid (rl qs = (List.range k).map (bR (2 + (a : Int)) u o)) ∧ wr.ownsRow w.heap.size 28 4 l k (pcells qs) ∧ Hid (VoS wr 25 qs) ∧ Below w.heap.size w wr) (fun _ i _ => 4 - (intOf i).toNat)
  case atStart => exact ⟨0, [], by omega, rfl, rfl, rfl, World.ownsRow_nil _ _ _ _, VoS.nil_, Below.refl _ _⟩
  case round =>
    obtain ⟨k, qs, hk, rfl, hql, hqr, hown, hvs, hbel⟩ := hrel
    by_cases hlt : k < 4
    · have hst := bR_step (2 + (a : Int)) u o k
      rw [← hqr.out] at hst
      have HST := Lib.hid hst; clear hst hqr
      by_cases hko : k = o
      · have hko' : ((k : Int) == (o : Int)) = true := by simp [hko]
        have HKO := Lib.hid hko; clear hko
        have HLL := Lib.hid hql.out
        have hs0 : w.heap.size ≤ wr.heap.size := hbel.size
        have HW4 : Hid (VoS ((((wr.alloc (.cells #[.int .i64 u, .int .i64 3] 25)).alloc (.cells #[.int .i64 k, .int .i64 (2 + (a : Int) - 1), .int .i64 2, .slice (some ⟨wr.heap.size + 1 + 1, 0, none⟩) 1 1] 28)).alloc (.cells #[.int .i64 (2 + (a : Int) - 1), .int .i64 2] 25)).alloc (.cells #[.int .i64 k, .int .i64 (2 + (a : Int) - 1), .int .i64 2, .slice (some ⟨wr.heap.size + 1 + 1, 0, none⟩) 1 1] 28)) 25 (qs ++ [(⟨⟨k, 2 + (a : Int) - 1, 2, [(2 + (a : Int) - 1, 2)]⟩, some ⟨wr.heap.size + 1 + 1, 0, none⟩, 1⟩ : Pp)])) := VoS.push (hvs.out.on (up_ (up_ (up_ (up_ (Below.refl _ _) _) _) _) _)) (.inr ⟨_, #[.int .i64 (2 + (a : Int) - 1), .int .i64 2], rfl, show Blk _ (wr.heap.size + 1 + 1) 25 _ from by have := (Blk.new ((wr.alloc (.cells #[.int .i64 u, .int .i64 3] 25)).alloc (.cells #[.int .i64 k, .int .i64 (2 + (a : Int) - 1), .int .i64 2, .slice (some ⟨wr.heap.size + 1 + 1, 0, none⟩) 1 1] 28)) 25 #[.int .i64 (2 + (a : Int) - 1), .int .i64 2]).alloc (.cells #[.int .i64 k, .int .i64 (2 + (a : Int) - 1), .int .i64 2, .slice (some ⟨wr.heap.size + 1 + 1, 0, none⟩) 1 1] 28); simpa using this, fun i hi => by
          have hi0 : i = 0 := by simp at hi; omega
          subst hi0
          exact ⟨rfl, rfl⟩⟩)
        have hown4 : ((((wr.alloc (.cells #[.int .i64 u, .int .i64 3] 25)).alloc (.cells #[.int .i64 k, .int .i64 (2 + (a : Int) - 1), .int .i64 2, .slice (some ⟨wr.heap.size + 1 + 1, 0, none⟩) 1 1] 28)).alloc (.cells #[.int .i64 (2 + (a : Int) - 1), .int .i64 2] 25)).alloc (.cells #[.int .i64 k, .int .i64 (2 + (a : Int) - 1), .int .i64 2, .slice (some ⟨wr.heap.size + 1 + 1, 0, none⟩) 1 1] 28)).ownsRow w.heap.size 28 4 u6 k (pcells qs) := (((hown.alloc _).alloc _).alloc _).alloc _
        have HTY := Lib.hid (own_type hown4)
        have HO4 := Lib.hid hown4
        have HGE := Lib.hid (fun j hj => (hown4.lt j hj).1)
        have HB4 := Lib.hid ((hbel.trans ((up_ (up_ (up_ (up_ (Below.refl _ _) _) _) _) _ : Below wr.heap.size wr ((((wr.alloc (.cells #[.int .i64 u, .int .i64 3] 25)).alloc (.cells #[.int .i64 k, .int .i64 (2 + (a : Int) - 1), .int .i64 2, .slice (some ⟨wr.heap.size + 1 + 1, 0, none⟩) 1 1] 28)).alloc (.cells #[.int .i64 (2 + (a : Int) - 1), .int .i64 2] 25)).alloc (.cells #[.int .i64 k, .int .i64 (2 + (a : Int) - 1), .int .i64 2, .slice (some ⟨wr.heap.size + 1 + 1, 0, none⟩) 1 1] 28))).mono hs0)))
        have HEQ : Hid (rl (qs ++ [(⟨⟨k, 2 + (a : Int) - 1, 2, [(2 + (a : Int) - 1, 2)]⟩, some ⟨wr.heap.size + 1 + 1, 0, none⟩, 1⟩ : Pp)]) = (List.range (k + 1)).map (bR (2 + (a : Int)) u o)) := by show _ = _; rw [HST.out]; simp [rl, bR, HKO.out]
        clear hown4 hown hvs hql
        go_wp2_with fail
        refine (H3.out _ (up_ (up_ hbel _) _)).mono ?_
        rintro e w1 ⟨rfl, rfl⟩
        clear hbel
        go_wp2_with (at_builtin; go_loud (refine wpList_append_any _ rfl (.tmp 47) (.tmp 49) 23 rfl w.heap.size 28 i0 _ 4 48 Try.underlying23 hi0 hz0 hz1 hz2 rfl (by omega) u6 k (pcells qs) rfl HO4.out _ _ 1 1 (pc1 (⟨⟨k, 2 + (a : Int) - 1, 2, [(2 + (a : Int) - 1, 2)]⟩, some ⟨wr.heap.size + 1 + 1, 0, none⟩, 1⟩ : Pp)) rfl (lit_rep_at (((wr.alloc (.cells #[.int .i64 u, .int .i64 3] 25)).alloc (.cells #[.int .i64 k, .int .i64 (2 + (a : Int) - 1), .int .i64 2, .slice (some ⟨wr.heap.size + 1 + 1, 0, none⟩) 1 1] 28)).alloc (.cells #[.int .i64 (2 + (a : Int) - 1), .int .i64 2] 25)) 28 (⟨⟨k, 2 + (a : Int) - 1, 2, [(2 + (a : Int) - 1, 2)]⟩, some ⟨wr.heap.size + 1 + 1, 0, none⟩, 1⟩ : Pp) (wr.heap.size + 1 + 1 + 1) (by simp)) (fun yy hy => pcells_one [(⟨⟨k, 2 + (a : Int) - 1, 2, [(2 + (a : Int) - 1, 2)]⟩, some ⟨wr.heap.size + 1 + 1, 0, none⟩, 1⟩ : Pp)] yy (by simpa [pcells] using hy)) (by simp only [maxLen]; omega) (by omega) (by simp; omega) ?_); intro v2 w3 hown2 hgr2 hat2)
        have hb2 := HB4.out.grown hgr2 (by simp; omega) HGE.out
        have hv2 := HW4.out.grown hgr2 HTY.out (by decide)
        go_roundw
        case rel => exact ⟨k + 1, qs ++ [(⟨⟨k, 2 + (a : Int) - 1, 2, [(2 + (a : Int) - 1, 2)]⟩, some ⟨wr.heap.size + 1 + 1, 0, none⟩, 1⟩ : Pp)], by omega, by go_num, by show _ = _; simp [HLL.out], HEQ.out, own_app4 HLL.out.symm hown2, hv2, hb2⟩
        case measure => simp [intOf]; omega
      · have hko' : ((k : Int) == (o : Int)) = false := by simp; omega
        have HLL := Lib.hid hql.out
        have hs0 : w.heap.size ≤ wr.heap.size := hbel.size
        have HW4 : Hid (VoS (((wr.alloc (.cells #[.int .i64 u, .int .i64 3] 25)).alloc (.cells #[.int .i64 k, .int .i64 u, .int .i64 3, .slice (some ⟨wr.heap.size, 0, none⟩) 1 1] 28)).alloc (.cells #[.int .i64 k, .int .i64 u, .int .i64 3, .slice (some ⟨wr.heap.size, 0, none⟩) 1 1] 28)) 25 (qs ++ [(⟨⟨k, u, 3, [((u : Int), 3)]⟩, some ⟨wr.heap.size, 0, none⟩, 1⟩ : Pp)])) := VoS.push (hvs.out.on (up_ (up_ (up_ (Below.refl _ _) _) _) _)) (.inr ⟨_, #[.int .i64 u, .int .i64 3], rfl, ((Blk.new wr 25 #[.int .i64 u, .int .i64 3]).alloc _).alloc _, fun i hi => by
          have hi0 : i = 0 := by simp at hi; omega
          subst hi0
          exact ⟨rfl, rfl⟩⟩)
        have hown4 : (((wr.alloc (.cells #[.int .i64 u, .int .i64 3] 25)).alloc (.cells #[.int .i64 k, .int .i64 u, .int .i64 3, .slice (some ⟨wr.heap.size, 0, none⟩) 1 1] 28)).alloc (.cells #[.int .i64 k, .int .i64 u, .int .i64 3, .slice (some ⟨wr.heap.size, 0, none⟩) 1 1] 28)).ownsRow w.heap.size 28 4 u6 k (pcells qs) := ((hown.alloc _).alloc _).alloc _
        have HTY := Lib.hid (own_type hown4)
        have HO4 := Lib.hid hown4
        have HGE := Lib.hid (fun j hj => (hown4.lt j hj).1)
        have HB4 := Lib.hid ((hbel.trans ((up_ (up_ (up_ (Below.refl _ _) _) _) _ : Below wr.heap.size wr (((wr.alloc (.cells #[.int .i64 u, .int .i64 3] 25)).alloc (.cells #[.int .i64 k, .int .i64 u, .int .i64 3, .slice (some ⟨wr.heap.size, 0, none⟩) 1 1] 28)).alloc (.cells #[.int .i64 k, .int .i64 u, .int .i64 3, .slice (some ⟨wr.heap.size, 0, none⟩) 1 1] 28))).mono hs0)))
        have HEQ : Hid (rl (qs ++ [(⟨⟨k, u, 3, [((u : Int), 3)]⟩, some ⟨wr.heap.size, 0, none⟩, 1⟩ : Pp)]) = (List.range (k + 1)).map (bR (2 + (a : Int)) u o)) := by show _ = _; rw [HST.out]; simp [rl, bR]; omega
        clear hown4 hown hvs hql
        go_wp2_with fail
        refine (H3.out _ (up_ (up_ hbel _) _)).mono ?_
        rintro e w1 ⟨rfl, rfl⟩
        clear hbel
        go_wp2_with (at_builtin; go_loud (refine wpList_append_any _ rfl (.tmp 47) (.tmp 49) 23 rfl w.heap.size 28 i0 _ 4 48 Try.underlying23 hi0 hz0 hz1 hz2 rfl (by omega) u6 k (pcells qs) rfl HO4.out _ _ 1 1 (pc1 (⟨⟨k, u, 3, [((u : Int), 3)]⟩, some ⟨wr.heap.size, 0, none⟩, 1⟩ : Pp)) rfl (lit_rep_at ((wr.alloc (.cells #[.int .i64 u, .int .i64 3] 25)).alloc (.cells #[.int .i64 k, .int .i64 u, .int .i64 3, .slice (some ⟨wr.heap.size, 0, none⟩) 1 1] 28)) 28 (⟨⟨k, u, 3, [((u : Int), 3)]⟩, some ⟨wr.heap.size, 0, none⟩, 1⟩ : Pp) (wr.heap.size + 1 + 1) (by simp)) (fun yy hy => pcells_one [(⟨⟨k, u, 3, [((u : Int), 3)]⟩, some ⟨wr.heap.size, 0, none⟩, 1⟩ : Pp)] yy (by simpa [pcells] using hy)) (by simp only [maxLen]; omega) (by omega) (by simp; omega) ?_); intro v2 w3 hown2 hgr2 hat2)
        have hb2 := HB4.out.grown hgr2 (by simp; omega) HGE.out
        have hv2 := HW4.out.grown hgr2 HTY.out (by decide)
        go_roundw
        case rel => exact ⟨k + 1, qs ++ [(⟨⟨k, u, 3, [((u : Int), 3)]⟩, some ⟨wr.heap.size, 0, none⟩, 1⟩ : Pp)], by omega, by go_num, by show _ = _; simp [HLL.out], HEQ.out, own_app4 HLL.out.symm hown2, hv2, hb2⟩
        case measure => simp [intOf]; omega
    · have hk4 : k = 4 := by omega
      have HK4 := Lib.hid hk4
      obtain ⟨LA, LC, hl, hrd⟩ : ∃ LA LC, u6 = .slice LA k LC ∧ RdR wr wr.heap.size LA qs := by
        obtain ⟨LA, LC, rfl⟩ : ∃ A c, u6 = .slice A k c := by
          obtain ⟨_, ⟨_, h0⟩ | ⟨g, cap, cur, rfl, _⟩⟩ := hown
          · omega
          · exact ⟨_, _, rfl⟩
        exact ⟨LA, LC, rfl, (RdR.of_own hown hvs.out.rd).2⟩
      subst hl
      have hfew : Few qs := ⟨by rw [hql.out]; omega, fun i hi => by
        have h1 : (qs.getD i zP).r = (rl qs).getD i zR := (rl_at qs i).symm
        rw [h1, hqr.out]
        have h4 : i < 4 := by rw [hql.out] at hi; omega
        rw [hk4]
        have h5 : ((List.range 4).map (bR (2 + (a : Int)) u o)).getD i zR = bR (2 + (a : Int)) u o i := by simp [List.getD, h4]
        rw [h5]
        unfold bR
        split <;> simp⟩
      have HF := Lib.hid hfew
      have HR := Lib.hid hrd
      have hq4 := hql.out
      have HQ : Hid (rl qs = bRs (2 + (a : Int)) u o) := by show _ = _; rw [hqr.out, hk4]; rfl
      have HSF : Hid (∀ v : Nat, 1 ≤ v → v < 5 → ∀ W, RdR W W.heap.size LA qs → Calls Try.prog 31 #[.int .i64 4, .int .i64 (2 + (a : Int)), .slice LA k LC, .int .i64 v] W fun e w' => e = .returned (.bool (decide (v = 3))) ∧ Below W.heap.size W w') := by
        show ∀ v : Nat, _
        intro v hv1 hv5 W h
        have := safe_is_ (decide (v = 3)) 4 (2 + (a : Int)) v LA LC qs (by rw [HQ.out]; exact HB.out.1 v hv1 hv5) W h HF.out
        rwa [hq4] at this
      have HCH : Hid (∀ W, RdR W W.heap.size LA qs → Calls Try.prog 37 #[.int .i64 4, .int .i64 (2 + (a : Int)), .slice LA k LC, .int .i64 1] W fun e w' => e = .returned (.tuple #[.int .i64 3, .bool true]) ∧ Below W.heap.size W w') := by
        show ∀ W, _
        intro W h
        have := choose_is_ (3, true) 4 (2 + (a : Int)) 1 LA LC qs (by rw [HQ.out]; exact HB.out.2) W h HF.out
        rwa [hq4] at this
      have HBE := Lib.hid hbel
      clear hfew hrd hq4 hown hvs hqr hql hbel hk4
      go_wp2
      go_loopw [9] (fun i w2 => ∃ (v : Nat), 1 ≤ v ∧ v ≤ 5 ∧ i = .int .i64 v ∧ Below wr.heap.size wr w2) (fun i _ => 5 - (intOf i).toNat)
      case atStart => exact ⟨1, by omega, by omega, rfl, Below.refl _ _⟩
      case round =>
        obtain ⟨v, hv1, hv5, rfl, hbel⟩ := hrel
        have hr2 := Lib.hid ((HR.out.below hbel).more hbel.size)
        by_cases hlt5 : v < 5
        · have hcl := Lib.hid (HSF.out v hv1 hlt5 _ hr2.out)
          by_cases h3 : v = 3
          · have h3' : ((v : Int) == 3) = true := by simp; omega
            have hd : decide (v = 3) = true := by simpa using h3
            have hcl2 := hcl.out
            rw [hd] at hcl2
            have HCL := Lib.hid hcl2
            clear hcl2 hcl hd h3
            go_wp2_with fail
            refine HCL.out.mono ?_
            rintro e w1 ⟨rfl, hb1⟩
            go_wp2
            go_roundw
            case rel => exact ⟨v + 1, by omega, by omega, by go_num, hbel.trans (hb1.mono hbel.size)⟩
            case measure => simp [intOf]; omega
          · have h3' : ((v : Int) == 3) = false := by simp; omega
            have hd : decide (v = 3) = false := by simpa using h3
            have hcl2 := hcl.out
            rw [hd] at hcl2
            have HCL := Lib.hid hcl2
            clear hcl2 hcl hd h3
            go_wp2_with fail
            refine HCL.out.mono ?_
            rintro e w1 ⟨rfl, hb1⟩
            go_wp2
            go_roundw
            case rel => exact ⟨v + 1, by omega, by omega, by go_num, hbel.trans (hb1.mono hbel.size)⟩
            case measure => simp [intOf]; omega
        · have hcc := Lib.hid (HCH.out _ hr2.out)
          go_wp2_with fail
          refine hcc.out.mono ?_
          rintro e w1 ⟨rfl, hb1⟩
          go_wp2_with fail
          refine (reports_is _).mono ?_
          rintro e w3 ⟨rfl, hb3⟩
          go_wp2
          go_ret
          exact ⟨rfl, on_ (on_ (on_ HBE.out hbel) hb1) hb3⟩
end Go.Proofs.Ytikhakmddcmbpaa.V
