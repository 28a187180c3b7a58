/-
  l3add of the model: its contract. No statement is proved here.
-/
import Derived.Test.YtcfjmhebhhekbaaL3Base
import Derived.Deep.RegionHeld3
import Derived.Deep.RegionLaw
import Derived.Deep.CutRange
set_option linter.unusedVariables false
set_option maxRecDepth 100000
namespace Go.Proofs.Ytcfjmhebhhekbaa.V
open Go.RowKit Go.Proofs.Ytcfjmhebhhekbaa.B

/-- What is added to: reports that read. -/
def ARR (A : Option Addr) (ps us : List Pp) (q : Bool) (w : World) (e : Ending) (w' : World) : Prop :=
  ∃ B d, e = .returned (.tuple #[.slice B us.length d, .bool q]) ∧ us.length ≤ d ∧ ((B = A ∧ us = ps) ∨ w'.ownsRow w.heap.size 28 4 (.slice B us.length d) us.length (pcells us)) ∧ RdR w' w'.heap.size B us ∧ Below w.heap.size w w'
/-- Behind the first two appends. -/
def InsC (w : World) (BB : Nat) (W0 : World) (k : Nat) (ys : List Value) (v : Value) (wx : World) : Prop :=
  wx.ownsRow BB 28 4 v (k + 1) ys ∧ Below BB W0 wx

set_option maxHeartbeats 3200000 in
theorem l3add_go (f v x : Int) (RA : Option Addr) (rc : Nat) (vs : List (Int × Int)) (A : Option Addr) (c k0 : Nat) (ps : List Pp) (hpl : PlR ps f k0) (w : World) (hr : RdR w w.heap.size A ps) (hrv : Rd w w.heap.size RA vs) (hn : ps.length ≤ 2097000) (hnc : ps.length ≤ c) :
    Calls Try.prog 62 #[.slice A ps.length c, .agg #[.int .i64 f, .int .i64 v, .int .i64 x, .slice RA vs.length rc]] w (ARR A ps (if hasF ps f k0 then ps else insR ps k0 (⟨⟨f, v, x, vs⟩, RA, rc⟩ : Pp)) (!hasF ps f k0) w) := by
  obtain ⟨i0, hi0, hz0, hz1, hz2⟩ := info_parts infoR
  obtain ⟨n, hvn⟩ : ∃ n, ps.length = n := ⟨_, rfl⟩
  obtain ⟨us, hus⟩ : ∃ us, (if hasF ps f k0 then ps else insR ps k0 (⟨⟨f, v, x, vs⟩, RA, rc⟩ : Pp)) = us := ⟨_, rfl⟩
  obtain ⟨q, hq⟩ : ∃ q, hasF ps f k0 = q := ⟨_, rfl⟩
  rw [hus, hq]
  rw [hq] at hus
  have hq' : q = (decide (k0 < n) && ((ps.getD k0 zP).r.f == f)) := by rw [← hq, hasF, hvn]
  have HUS := Lib.hid hus; clear hus
  have HQQ := Lib.hid hq'; clear hq hq'
  have hkn : k0 ≤ n := hvn ▸ hpl.1
  have HPL := Lib.hid hpl; clear hpl
  have HVS : Hid (∀ W, Below w.heap.size w W → Rd W W.heap.size RA vs ∧ VsR W W.heap.size ps) := fun W hW => ⟨(hrv.below hW).more hW.size, hr.vs.on hW⟩
  rw [hvn] at hn hnc ⊢
  have HV := Lib.hid hvn; clear hvn
  have kb := Blk.new w 28 #[.int .i64 f, .int .i64 v, .int .i64 x, .slice RA vs.length rc]
  have HK : Hid (∀ wr, Below (w.heap.size + 1) (w.alloc (.cells #[.int .i64 f, .int .i64 v, .int .i64 x, .slice RA vs.length rc] 28)) wr → Blk wr w.heap.size 28 #[.int .i64 f, .int .i64 v, .int .i64 x, .slice RA vs.length rc] ∧ RdR wr w.heap.size A ps ∧ Below w.heap.size w wr ∧ w.heap.size + 1 ≤ wr.heap.size) := fun wr h =>
    have hB : Below w.heap.size w wr := (up_ (Below.refl _ _) _).trans (h.mono (by omega))
    ⟨kb.below h (by omega), hr.below hB, hB, by have := h.size; simpa using this⟩
  clear kb hr hrv
  go_enter Try.func62, Try.ntmps62
  go_wp2
  go_loopw [6] (fun i wr => ∃ (k : Nat), k ≤ k0 ∧ i = .int .i64 k ∧ Below (w.heap.size + 1) (w.alloc (.cells #[.int .i64 f, .int .i64 v, .int .i64 x, .slice RA vs.length rc] 28)) wr) (fun i _ => k0 - (intOf i).toNat)
  case atStart => exact ⟨0, Nat.zero_le _, rfl, Below.refl _ _⟩
  case round =>
    obtain ⟨k, hk, rfl, hbel⟩ := hrel
    obtain ⟨kb, hr1, hbw, hsz⟩ := HK.out wr hbel
    have B0 := fun y : Lat wr => y.cell (kb.cell 0)
    by_cases hlt : k < n
    · obtain ⟨bl, off, rfl, hbl, hc0, -⟩ := RdR.at_ hr1 (k := k) (by rw [HV.out]; omega)
      obtain ⟨z, hz⟩ : ∃ z, (ps.getD k zP).r.f = z := ⟨_, rfl⟩
      rw [hz] at hc0
      have C0 := fun y : Lat wr => y.cell hc0
      by_cases hlt0 : k < k0
      · have hzn : z < f := by have := HPL.out.2.1 k hlt0; rw [hz] at this; exact this
        have hd : decide (z < f) = true := by simpa using hzn
        clear hz
        go_wp2
        refine wp_region_lat (by kernel_rfl) (by kernel_rfl) ?_
        repeat (go_big_quiet_step (fail))
        refine wpQuiet_nil ?_
        rintro w3 ⟨⟨_, hb3⟩, rfl⟩
        clear B0 C0
        go_wp2
        go_roundw
        case rel => exact ⟨k + 1, by omega, by go_num, hbel.trans (hb3.mono hsz)⟩
        case measure => simp [intOf]; omega
      · obtain rfl : k = k0 := by omega
        have hzn : ¬ z < f := by have := HPL.out.2.2 (by rw [HV.out]; exact hlt); rw [hz] at this; exact this
        have hd : decide (z < f) = false := by simp; omega
        have HQ2 : Hid (q = (z == f)) := by show _ = _; rw [HQQ.out, hz]; simp [hlt]
        have HU := Lib.hid hz
        clear hz
        go_wp2
        refine wp_region_lat (by kernel_rfl) (by kernel_rfl) ?_
        repeat (go_big_quiet_step (fail))
        refine wpQuiet_nil ?_
        rintro w3 ⟨⟨_, hb3⟩, rfl⟩
        clear B0 C0
        have hbel3 := hbel.trans (hb3.mono hsz)
        obtain ⟨kb3, hr3, hbw3, hsz3⟩ := HK.out _ hbel3
        obtain ⟨bl', off', he, _, hc0', -⟩ := RdR.at_ hr3 (k := k) (by rw [HV.out]; omega)
        injection he with he
        injection he with he1 he2
        subst he1 he2
        rw [HU.out] at hc0'
        have B0 := fun y : Lat w3 => y.cell (kb3.cell 0)
        have C0 := fun y : Lat w3 => y.cell hc0'
        cases q
        · have hd2 : (z == f) = false := HQ2.out.symm
          go_wp2
          refine wp_region_lat (by kernel_rfl) (by kernel_rfl) ?_
          repeat (go_big_quiet_step (fail))
          refine wpQuiet_nil ?_
          rintro w5 ⟨⟨_, hb5⟩, rfl⟩
          have hbel5 := hbel3.trans (hb5.mono hsz3)
          clear B0 C0 hc0' hc0 kb3 hr3 hb3 hb5 kb hr1 hbw hbw3 hbel3 hbel
          have HUS2 : Hid (us = insR ps k (⟨⟨f, v, x, vs⟩, RA, rc⟩ : Pp)) := by show _ = _; rw [← HUS.out]; simp
          obtain ⟨kb5, hr5, hbw5, hw5⟩ := HK.out _ hbel5
          have hrd5 := (hr5.take_ k (by rw [HV.out]; omega)).reads
          rw [List.length_take, HV.out, Nat.min_eq_left (by omega)] at hrd5
          have HLB := Lib.hid (pcells_one (ps.take k))
          have hkl : k ≤ 2097000 := by omega
          have hkc : k ≤ c := by omega
          have hkc1 : (k : Int) ≤ (c : Int) := by omega
          have hkc0 : (0 : Int) ≤ (k : Int) := by omega
          have hkn1 : (k : Int) ≤ (n : Int) := by omega
          have hkn2 : k ≤ n := by omega
          have hq5 : w.heap.size ≤ w5.heap.size := by omega
          have hn5 : some w5.heap.size ≠ some w.heap.size := ne_some (by omega)
          have hn51 : some (w5.heap.size + 1) ≠ some w.heap.size := ne_some (by omega)
          have hnl : some w5.heap.size ≠ some (w5.heap.size + 1) := ne_some (by omega)
          have hnl1 : some (w5.heap.size + 1) ≠ some w5.heap.size := ne_some (by omega)
          have hrow : ∀ j, (Value.slice (some ⟨w5.heap.size, 0, none⟩) 0 0).ownBlock = some j → (w.heap.size + 1) ≤ j := fun j hj => by have hj : some w5.heap.size = some j := hj; injection hj with hj; omega
          have hrow1 : ∀ j, (Value.slice (some ⟨w5.heap.size + 1, 0, none⟩) 0 0).ownBlock = some j → (w.heap.size + 1) ≤ j := fun j hj => by have hj : some (w5.heap.size + 1) = some j := hj; injection hj with hj; omega
          clear hr5
          have rb5 := kb5.rule
          go_wp2_with fail
          go_cut [7] from 39 to 46 (fun s7 wx => InsC w (w.heap.size + 1) (w.alloc (.cells #[.int .i64 f, .int .i64 v, .int .i64 x, .slice RA vs.length rc] 28)) k (pcells (ps.take k ++ [(⟨⟨f, v, x, vs⟩, RA, rc⟩ : Pp)])) s7 wx)
          case first =>
            rename_i J_ K_ hJ_ hK_
            go_region_held3 (fun w' => ∀ i, w'.cell? ⟨w.heap.size, i, none⟩ = (#[.int .i64 f, .int .i64 v, .int .i64 x, .slice RA vs.length rc] : Array Value)[i]?)
                      (first | with_reducible exact kb7.rule | with_reducible exact (Blk.up kb6 _).rule | with_reducible exact kb6.rule | with_reducible exact (Blk.dr (Blk.up (Blk.up kb5 _) _)).rule | with_reducible exact (Blk.dr (Blk.up kb5 _)).rule | with_reducible exact (Blk.dr kb5).rule)
                      (first
                        | (refine step_append_any _ (by rfl) (.tmp 39) (.tmp 42) 23 (by rfl) (w.heap.size + 1) 28 i0 _ 4 48 Try.underlying23 hi0 hz0 hz1 hz2 rfl (by omega) (.slice (some ⟨w5.heap.size, 0, none⟩) 0 0) 0 [] (by rfl) (own_more3 (own_drew (own_emptyN w5 _ 4 (by omega))) hw5) _ (some ⟨bl, off, none⟩) k c (pcells (ps.take k)) (by rfl) (reads_drew (hrd5.alloc hq5 _)) HLB.out (by simp only [maxLen]; omega) (by omega) (Nat.le_trans hw5 (sz_d _ _)) ?_; intro v6 w6 hown6 hgr6 hat6; have kb6 := keepK (Blk.dr (Blk.up kb5 _)) hgr6 hn5; have hs6 := Nat.le_trans (sz_d w5 _) hgr6.size; have hbel6 := Below.grown ((hbel5.alloc hw5 _).drew) hgr6 (Nat.le_trans hw5 (sz_d _ _)) hrow)
                        | (refine step_append_any _ (by rfl) (.tmp 39) (.tmp 42) 23 (by rfl) (w.heap.size + 1) 28 i0 _ 4 48 Try.underlying23 hi0 hz0 hz1 hz2 rfl (by omega) (.slice (some ⟨w5.heap.size, 0, none⟩) 0 0) 0 [] (by rfl) (own_more3 (own_drew ((own_emptyN w5 _ 4 (by omega)).alloc _)) hw5) _ (some ⟨bl, off, none⟩) k c (pcells (ps.take k)) (by rfl) (reads_drew ((hrd5.alloc hq5 _).alloc (Nat.le_trans hq5 (sz_a _ _)) _)) HLB.out (by simp only [maxLen]; omega) (by omega) (Nat.le_trans hw5 (sz_d2 _ _ _)) ?_; intro v6 w6 hown6 hgr6 hat6; have kb6 := keepK (Blk.dr (Blk.up (Blk.up kb5 _) _)) hgr6 hn5; have hs6 := Nat.le_trans (sz_d2 w5 _ _) hgr6.size; have hbel6 := Below.grown (((hbel5.alloc hw5 _).alloc (Nat.le_trans hw5 (sz_a _ _)) _).drew) hgr6 (Nat.le_trans hw5 (sz_d2 _ _ _)) hrow; have kl6 := keepK (Blk.dr (blk_new1 w5 _ 28 #[.int .i64 f, .int .i64 v, .int .i64 x, .slice RA vs.length rc])) hgr6 hnl)
                        | (refine step_append_any _ (by rfl) (.tmp 39) (.tmp 42) 23 (by rfl) (w.heap.size + 1) 28 i0 _ 4 48 Try.underlying23 hi0 hz0 hz1 hz2 rfl (by omega) (.slice (some ⟨w5.heap.size + 1, 0, none⟩) 0 0) 0 [] (by rfl) (own_more3 (own_drew (own_emptyN2 w5 _ 4 (by omega) _)) (Nat.le_succ_of_le hw5)) _ (some ⟨bl, off, none⟩) k c (pcells (ps.take k)) (by rfl) (reads_drew ((hrd5.alloc hq5 _).alloc (Nat.le_trans hq5 (sz_a _ _)) _)) HLB.out (by simp only [maxLen]; omega) (by omega) (Nat.le_trans hw5 (sz_d2 _ _ _)) ?_; intro v6 w6 hown6 hgr6 hat6; have kb6 := keepK (Blk.dr (Blk.up (Blk.up kb5 _) _)) hgr6 hn51; have hs6 := Nat.le_trans (sz_d2 w5 _ _) hgr6.size; have hbel6 := Below.grown (((hbel5.alloc hw5 _).alloc (Nat.le_trans hw5 (sz_a _ _)) _).drew) hgr6 (Nat.le_trans hw5 (sz_d2 _ _ _)) hrow1; have kl6 := keepK (Blk.dr (Blk.up (Blk.new w5 28 #[.int .i64 f, .int .i64 v, .int .i64 x, .slice RA vs.length rc]) _)) hgr6 hnl1)
                        | (refine step_append_any _ (by rfl) (.tmp 43) (.tmp 45) 23 (by rfl) (w.heap.size + 1) 28 i0 _ 4 48 Try.underlying23 hi0 hz0 hz1 hz2 rfl (by omega) v6 (0 + k) ([] ++ pcells (ps.take k)) (by rfl) (hown6.alloc _) _ _ 1 1 (pc1 (⟨⟨f, v, x, vs⟩, RA, rc⟩ : Pp)) (by rfl) (lit_rep w6 28 (⟨⟨f, v, x, vs⟩, RA, rc⟩ : Pp)) (pc1_one _) (by simp only [maxLen]; omega) (by omega) (Nat.le_trans (Nat.le_trans hw5 hs6) (sz_a _ _)) ?_; intro v7 w7 hown7 hgr7 hat7; have kb7 := keepK (Blk.up kb6 _) hgr7 (ne_lowN hown6 (by omega)); have hbel7 := Below.grown (hbel6.alloc (Nat.le_trans hw5 hs6) _) hgr7 (Nat.le_trans (Nat.le_trans hw5 hs6) (sz_a _ _)) (fun j hj => (hown6.lt j hj).1))
                        | (refine step_append_any _ (by rfl) (.tmp 43) (.tmp 45) 23 (by rfl) (w.heap.size + 1) 28 i0 _ 4 48 Try.underlying23 hi0 hz0 hz1 hz2 rfl (by omega) v6 (0 + k) ([] ++ pcells (ps.take k)) (by rfl) (hown6) _ _ 1 1 (pc1 (⟨⟨f, v, x, vs⟩, RA, rc⟩ : Pp)) (by rfl) (blk_rep (p := (⟨⟨f, v, x, vs⟩, RA, rc⟩ : Pp)) kl6) (pc1_one _) (by simp only [maxLen]; omega) (by omega) (Nat.le_trans hw5 hs6) ?_; intro v7 w7 hown7 hgr7 hat7; have kb7 := keepK kb6 hgr7 (ne_lowN hown6 (by omega)); have hbel7 := Below.grown hbel6 hgr7 (Nat.le_trans hw5 hs6) (fun j hj => (hown6.lt j hj).1)))
            all_goals (refine hK_ _ _ (Met.intro (hJ_ _ _ ?_)); (repeat apply Exists.intro); refine ⟨?_, rfl⟩)
            all_goals
              have hown7 := own_reps hown7
              exact ⟨hown7, hbel7⟩
          case rest =>
            revert wc
            intro w8 hcut
            obtain ⟨hown8, hbel8⟩ := hcut
            obtain ⟨A8, d8, rfl, hcap8⟩ := formA hown8
            obtain ⟨kb8, hr8, hbw8, hsz8⟩ := HK.out _ hbel8
            clear kb5 hrd5 hbel5 hw5 rb5 hn5 hn51 hnl hnl1 hrow hrow1 HLB hq5
            have HLD := Lib.hid (pcells_one (ps.drop k))
            have hrd8 := (hr8.drop_ k).reads
            rw [List.length_drop, HV.out] at hrd8
            have hck1 : k < c := by omega
            have hck2 : ¬ c ≤ k := by omega
            have hck3 : (k : Int) < (c : Int) := by omega
            go_wp2_with (at_builtin; go_loud (refine wpList_append_any _ rfl (.tmp 47) (.tmp 50) 23 rfl (w.heap.size + 1) 28 i0 _ 4 48 Try.underlying23 hi0 hz0 hz1 hz2 rfl (by omega) (.slice A8 (k + 1) d8) (k + 1) (pcells (ps.take k ++ [(⟨⟨f, v, x, vs⟩, RA, rc⟩ : Pp)])) rfl hown8 w.heap.size (some ⟨bl, off + k * 4, none⟩) (n - k) (c - k) (pcells (ps.drop k)) rfl hrd8 HLD.out (by simp only [maxLen]; omega) (by omega) hsz8 ?_); intro v9 w9 hown9 hgr9 hat9)
            all_goals
             have hbel9 := Below.grown hbel8 hgr9 hsz8 (fun j hj => (hown8.lt j hj).1)
             have hln : (insR ps k (⟨⟨f, v, x, vs⟩, RA, rc⟩ : Pp)).length = k + 1 + (n - k) := by have e := insR_len ps k (⟨⟨f, v, x, vs⟩, RA, rc⟩ : Pp) (by rw [HV.out]; omega); rw [HV.out] at e; omega
             have hown9 := own_insR hown9 hln
             obtain ⟨A9, d9, rfl, hcap9⟩ := formA hown9
             have HE := HK.out _ hbel9
             rw [hln] at hown9 hcap9 ⊢
             refine bodyPost_ret (v := .tuple #[.slice A9 (k + 1 + (n - k)) d9, .bool true]) (by simp [results, Try.results62, go_sem]) rfl ?_
             have hul : us.length = k + 1 + (n - k) := by rw [HUS2.out, hln]
             refine ⟨A9, d9, by first | (rw [hul]; done) | (rw [hul]; rfl), by rw [hul]; exact hcap9, .inr (by rw [HUS2.out, hln]; exact own_more3 hown9 (by omega)), ?_, HE.2.2.1⟩
             have hvs := HVS.out _ HE.2.2.1
             have hr9 := RdR.of_own (ps := insR ps k (⟨⟨f, v, x, vs⟩, RA, rc⟩ : Pp)) hown9 (VsR.at_ (fun q hq => (insR_mem hq).elim (fun e => by rw [e]; exact hvs.1) (fun e => hvs.2 q e)))
             rw [HUS2.out]
             exact hr9.2


        · have hd2 : (z == f) = true := HQ2.out.symm
          go_wp2
          refine wp_region_lat (by kernel_rfl) (by kernel_rfl) ?_
          repeat (go_big_quiet_step (fail))
          refine wpQuiet_nil ?_
          rintro w5 ⟨⟨_, hb5⟩, rfl⟩
          have hbel5 := hbel3.trans (hb5.mono hsz3)
          clear B0 C0 hc0' hc0 kb3 hr3 hb3 hb5 kb hr1 hbw hbw3 hbel3 hbel
          obtain ⟨kb5, hr5, hbw5, hw5⟩ := HK.out _ hbel5
          go_wp2
          have hus2 : us = ps := by rw [← HUS.out]; simp
          refine bodyPost_ret (v := .tuple #[.slice (some ⟨bl, off, none⟩) n c, .bool false]) (by simp [results, Try.results62, go_sem]) rfl ⟨some ⟨bl, off, none⟩, c, by rw [hus2, HV.out]; rfl, by rw [hus2, HV.out]; exact hnc, .inl ⟨rfl, hus2⟩, by rw [hus2]; exact hr5.more (by omega), hbw5⟩
    · obtain rfl : k = k0 := by omega
      obtain rfl : k = n := by omega
      have hf : decide ((k : Int) < (k : Int)) = false := by simp
      have HQ2 : Hid (q = false) := by show _ = _; rw [HQQ.out]; simp
      have hqf := HQ2.out
      subst hqf
      go_wp2
      refine wp_region_lat (by kernel_rfl) (by kernel_rfl) ?_
      repeat (go_big_quiet_step (fail))
      refine wpQuiet_nil ?_
      rintro w3 ⟨⟨_, hb3⟩, rfl⟩
      clear B0
      have hbel3 := hbel.trans (hb3.mono hsz)
      obtain ⟨kb3, hr3, hbw3, hsz3⟩ := HK.out _ hbel3
      go_wp2
      refine wp_region_lat (by kernel_rfl) (by kernel_rfl) ?_
      repeat (go_big_quiet_step (fail))
      refine wpQuiet_nil ?_
      rintro w5 ⟨⟨_, hb5⟩, rfl⟩
      have hbel5 := hbel3.trans (hb5.mono hsz3)
      clear kb3 hr3 hb3 hb5 kb hr1 hbw hbw3 hbel3 hbel
      have hkk : k - k = 0 := by omega
      rcases A with _ | ad
      · skip
        have HUS2 : Hid (us = insR ps k (⟨⟨f, v, x, vs⟩, RA, rc⟩ : Pp)) := by show _ = _; rw [← HUS.out]; simp
        obtain ⟨kb5, hr5, hbw5, hw5⟩ := HK.out _ hbel5
        have hrd5 := (hr5.take_ k (by rw [HV.out]; omega)).reads
        rw [List.length_take, HV.out, Nat.min_eq_left (by omega)] at hrd5
        have HLB := Lib.hid (pcells_one (ps.take k))
        have hkl : k ≤ 2097000 := by omega
        have hkc : k ≤ c := by omega
        have hkc1 : (k : Int) ≤ (c : Int) := by omega
        have hkc0 : (0 : Int) ≤ (k : Int) := by omega
        have hkn1 : (k : Int) ≤ (k : Int) := by omega
        have hkn2 : k ≤ k := by omega
        have hq5 : w.heap.size ≤ w5.heap.size := by omega
        have hn5 : some w5.heap.size ≠ some w.heap.size := ne_some (by omega)
        have hn51 : some (w5.heap.size + 1) ≠ some w.heap.size := ne_some (by omega)
        have hnl : some w5.heap.size ≠ some (w5.heap.size + 1) := ne_some (by omega)
        have hnl1 : some (w5.heap.size + 1) ≠ some w5.heap.size := ne_some (by omega)
        have hrow : ∀ j, (Value.slice (some ⟨w5.heap.size, 0, none⟩) 0 0).ownBlock = some j → (w.heap.size + 1) ≤ j := fun j hj => by have hj : some w5.heap.size = some j := hj; injection hj with hj; omega
        have hrow1 : ∀ j, (Value.slice (some ⟨w5.heap.size + 1, 0, none⟩) 0 0).ownBlock = some j → (w.heap.size + 1) ≤ j := fun j hj => by have hj : some (w5.heap.size + 1) = some j := hj; injection hj with hj; omega
        clear hr5
        have rb5 := kb5.rule
        go_wp2_with fail
        go_cut [7] from 39 to 46 (fun s7 wx => InsC w (w.heap.size + 1) (w.alloc (.cells #[.int .i64 f, .int .i64 v, .int .i64 x, .slice RA vs.length rc] 28)) k (pcells (ps.take k ++ [(⟨⟨f, v, x, vs⟩, RA, rc⟩ : Pp)])) s7 wx)
        case first =>
          rename_i J_ K_ hJ_ hK_
          go_region_held3 (fun w' => ∀ i, w'.cell? ⟨w.heap.size, i, none⟩ = (#[.int .i64 f, .int .i64 v, .int .i64 x, .slice RA vs.length rc] : Array Value)[i]?)
                    (first | with_reducible exact kb7.rule | with_reducible exact (Blk.up kb6 _).rule | with_reducible exact kb6.rule | with_reducible exact (Blk.dr (Blk.up (Blk.up kb5 _) _)).rule | with_reducible exact (Blk.dr (Blk.up kb5 _)).rule | with_reducible exact (Blk.dr kb5).rule)
                    (first
                      | (refine step_append_any _ (by rfl) (.tmp 39) (.tmp 42) 23 (by rfl) (w.heap.size + 1) 28 i0 _ 4 48 Try.underlying23 hi0 hz0 hz1 hz2 rfl (by omega) (.slice (some ⟨w5.heap.size, 0, none⟩) 0 0) 0 [] (by rfl) (own_more3 (own_drew (own_emptyN w5 _ 4 (by omega))) hw5) _ none k c (pcells (ps.take k)) (by rfl) (reads_drew (hrd5.alloc hq5 _)) HLB.out (by simp only [maxLen]; omega) (by omega) (Nat.le_trans hw5 (sz_d _ _)) ?_; intro v6 w6 hown6 hgr6 hat6; have kb6 := keepK (Blk.dr (Blk.up kb5 _)) hgr6 hn5; have hs6 := Nat.le_trans (sz_d w5 _) hgr6.size; have hbel6 := Below.grown ((hbel5.alloc hw5 _).drew) hgr6 (Nat.le_trans hw5 (sz_d _ _)) hrow)
                      | (refine step_append_any _ (by rfl) (.tmp 39) (.tmp 42) 23 (by rfl) (w.heap.size + 1) 28 i0 _ 4 48 Try.underlying23 hi0 hz0 hz1 hz2 rfl (by omega) (.slice (some ⟨w5.heap.size, 0, none⟩) 0 0) 0 [] (by rfl) (own_more3 (own_drew ((own_emptyN w5 _ 4 (by omega)).alloc _)) hw5) _ none k c (pcells (ps.take k)) (by rfl) (reads_drew ((hrd5.alloc hq5 _).alloc (Nat.le_trans hq5 (sz_a _ _)) _)) HLB.out (by simp only [maxLen]; omega) (by omega) (Nat.le_trans hw5 (sz_d2 _ _ _)) ?_; intro v6 w6 hown6 hgr6 hat6; have kb6 := keepK (Blk.dr (Blk.up (Blk.up kb5 _) _)) hgr6 hn5; have hs6 := Nat.le_trans (sz_d2 w5 _ _) hgr6.size; have hbel6 := Below.grown (((hbel5.alloc hw5 _).alloc (Nat.le_trans hw5 (sz_a _ _)) _).drew) hgr6 (Nat.le_trans hw5 (sz_d2 _ _ _)) hrow; have kl6 := keepK (Blk.dr (blk_new1 w5 _ 28 #[.int .i64 f, .int .i64 v, .int .i64 x, .slice RA vs.length rc])) hgr6 hnl)
                      | (refine step_append_any _ (by rfl) (.tmp 39) (.tmp 42) 23 (by rfl) (w.heap.size + 1) 28 i0 _ 4 48 Try.underlying23 hi0 hz0 hz1 hz2 rfl (by omega) (.slice (some ⟨w5.heap.size + 1, 0, none⟩) 0 0) 0 [] (by rfl) (own_more3 (own_drew (own_emptyN2 w5 _ 4 (by omega) _)) (Nat.le_succ_of_le hw5)) _ none k c (pcells (ps.take k)) (by rfl) (reads_drew ((hrd5.alloc hq5 _).alloc (Nat.le_trans hq5 (sz_a _ _)) _)) HLB.out (by simp only [maxLen]; omega) (by omega) (Nat.le_trans hw5 (sz_d2 _ _ _)) ?_; intro v6 w6 hown6 hgr6 hat6; have kb6 := keepK (Blk.dr (Blk.up (Blk.up kb5 _) _)) hgr6 hn51; have hs6 := Nat.le_trans (sz_d2 w5 _ _) hgr6.size; have hbel6 := Below.grown (((hbel5.alloc hw5 _).alloc (Nat.le_trans hw5 (sz_a _ _)) _).drew) hgr6 (Nat.le_trans hw5 (sz_d2 _ _ _)) hrow1; have kl6 := keepK (Blk.dr (Blk.up (Blk.new w5 28 #[.int .i64 f, .int .i64 v, .int .i64 x, .slice RA vs.length rc]) _)) hgr6 hnl1)
                      | (refine step_append_any _ (by rfl) (.tmp 43) (.tmp 45) 23 (by rfl) (w.heap.size + 1) 28 i0 _ 4 48 Try.underlying23 hi0 hz0 hz1 hz2 rfl (by omega) v6 (0 + k) ([] ++ pcells (ps.take k)) (by rfl) (hown6.alloc _) _ _ 1 1 (pc1 (⟨⟨f, v, x, vs⟩, RA, rc⟩ : Pp)) (by rfl) (lit_rep w6 28 (⟨⟨f, v, x, vs⟩, RA, rc⟩ : Pp)) (pc1_one _) (by simp only [maxLen]; omega) (by omega) (Nat.le_trans (Nat.le_trans hw5 hs6) (sz_a _ _)) ?_; intro v7 w7 hown7 hgr7 hat7; have kb7 := keepK (Blk.up kb6 _) hgr7 (ne_lowN hown6 (by omega)); have hbel7 := Below.grown (hbel6.alloc (Nat.le_trans hw5 hs6) _) hgr7 (Nat.le_trans (Nat.le_trans hw5 hs6) (sz_a _ _)) (fun j hj => (hown6.lt j hj).1))
                      | (refine step_append_any _ (by rfl) (.tmp 43) (.tmp 45) 23 (by rfl) (w.heap.size + 1) 28 i0 _ 4 48 Try.underlying23 hi0 hz0 hz1 hz2 rfl (by omega) v6 (0 + k) ([] ++ pcells (ps.take k)) (by rfl) (hown6) _ _ 1 1 (pc1 (⟨⟨f, v, x, vs⟩, RA, rc⟩ : Pp)) (by rfl) (blk_rep (p := (⟨⟨f, v, x, vs⟩, RA, rc⟩ : Pp)) kl6) (pc1_one _) (by simp only [maxLen]; omega) (by omega) (Nat.le_trans hw5 hs6) ?_; intro v7 w7 hown7 hgr7 hat7; have kb7 := keepK kb6 hgr7 (ne_lowN hown6 (by omega)); have hbel7 := Below.grown hbel6 hgr7 (Nat.le_trans hw5 hs6) (fun j hj => (hown6.lt j hj).1)))
          all_goals (refine hK_ _ _ (Met.intro (hJ_ _ _ ?_)); (repeat apply Exists.intro); refine ⟨?_, rfl⟩)
          all_goals
            have hown7 := own_reps hown7
            exact ⟨hown7, hbel7⟩
        case rest =>
          revert wc
          intro w8 hcut
          obtain ⟨hown8, hbel8⟩ := hcut
          obtain ⟨A8, d8, rfl, hcap8⟩ := formA hown8
          obtain ⟨kb8, hr8, hbw8, hsz8⟩ := HK.out _ hbel8
          clear kb5 hrd5 hbel5 hw5 rb5 hn5 hn51 hnl hnl1 hrow hrow1 HLB hq5
          have HLD := Lib.hid (pcells_one (ps.drop k))
          have hrd8 : ∀ X, Reads w8 w.heap.size 4 X 0 (pcells (ps.drop k)) := fun X => by rw [List.drop_of_length_le (by rw [HV.out]; omega)]; exact Reads.none_
          go_wp2_with (at_builtin; go_loud (refine wpList_append_any _ rfl (.tmp 47) (.tmp 50) 23 rfl (w.heap.size + 1) 28 i0 _ 4 48 Try.underlying23 hi0 hz0 hz1 hz2 rfl (by omega) (.slice A8 (k + 1) d8) (k + 1) (pcells (ps.take k ++ [(⟨⟨f, v, x, vs⟩, RA, rc⟩ : Pp)])) rfl hown8 w.heap.size _ 0 (c - k) (pcells (ps.drop k)) rfl (hrd8 _) HLD.out (by simp only [maxLen]; omega) (by omega) hsz8 ?_); intro v9 w9 hown9 hgr9 hat9)
          all_goals
           have hbel9 := Below.grown hbel8 hgr9 hsz8 (fun j hj => (hown8.lt j hj).1)
           have hln : (insR ps k (⟨⟨f, v, x, vs⟩, RA, rc⟩ : Pp)).length = k + 1 + 0 := by have e := insR_len ps k (⟨⟨f, v, x, vs⟩, RA, rc⟩ : Pp) (by rw [HV.out]; omega); rw [HV.out] at e; omega
           have hown9 := own_insR hown9 hln
           obtain ⟨A9, d9, rfl, hcap9⟩ := formA hown9
           have HE := HK.out _ hbel9
           rw [hln] at hown9 hcap9 ⊢
           refine bodyPost_ret (v := .tuple #[.slice A9 (k + 1 + 0) d9, .bool true]) (by simp [results, Try.results62, go_sem]) rfl ?_
           have hul : us.length = k + 1 + 0 := by rw [HUS2.out, hln]
           refine ⟨A9, d9, by first | (rw [hul]; done) | (rw [hul]; rfl), by rw [hul]; exact hcap9, .inr (by rw [HUS2.out, hln]; exact own_more3 hown9 (by omega)), ?_, HE.2.2.1⟩
           have hvs := HVS.out _ HE.2.2.1
           have hr9 := RdR.of_own (ps := insR ps k (⟨⟨f, v, x, vs⟩, RA, rc⟩ : Pp)) hown9 (VsR.at_ (fun q hq => (insR_mem hq).elim (fun e => by rw [e]; exact hvs.1) (fun e => hvs.2 q e)))
           rw [HUS2.out]
           exact hr9.2


      · skip
        have HUS2 : Hid (us = insR ps k (⟨⟨f, v, x, vs⟩, RA, rc⟩ : Pp)) := by show _ = _; rw [← HUS.out]; simp
        obtain ⟨kb5, hr5, hbw5, hw5⟩ := HK.out _ hbel5
        have hrd5 := (hr5.take_ k (by rw [HV.out]; omega)).reads
        rw [List.length_take, HV.out, Nat.min_eq_left (by omega)] at hrd5
        have HLB := Lib.hid (pcells_one (ps.take k))
        have hkl : k ≤ 2097000 := by omega
        have hkc : k ≤ c := by omega
        have hkc1 : (k : Int) ≤ (c : Int) := by omega
        have hkc0 : (0 : Int) ≤ (k : Int) := by omega
        have hkn1 : (k : Int) ≤ (k : Int) := by omega
        have hkn2 : k ≤ k := by omega
        have hq5 : w.heap.size ≤ w5.heap.size := by omega
        have hn5 : some w5.heap.size ≠ some w.heap.size := ne_some (by omega)
        have hn51 : some (w5.heap.size + 1) ≠ some w.heap.size := ne_some (by omega)
        have hnl : some w5.heap.size ≠ some (w5.heap.size + 1) := ne_some (by omega)
        have hnl1 : some (w5.heap.size + 1) ≠ some w5.heap.size := ne_some (by omega)
        have hrow : ∀ j, (Value.slice (some ⟨w5.heap.size, 0, none⟩) 0 0).ownBlock = some j → (w.heap.size + 1) ≤ j := fun j hj => by have hj : some w5.heap.size = some j := hj; injection hj with hj; omega
        have hrow1 : ∀ j, (Value.slice (some ⟨w5.heap.size + 1, 0, none⟩) 0 0).ownBlock = some j → (w.heap.size + 1) ≤ j := fun j hj => by have hj : some (w5.heap.size + 1) = some j := hj; injection hj with hj; omega
        clear hr5
        have rb5 := kb5.rule
        go_wp2_with fail
        go_cut [7] from 39 to 46 (fun s7 wx => InsC w (w.heap.size + 1) (w.alloc (.cells #[.int .i64 f, .int .i64 v, .int .i64 x, .slice RA vs.length rc] 28)) k (pcells (ps.take k ++ [(⟨⟨f, v, x, vs⟩, RA, rc⟩ : Pp)])) s7 wx)
        case first =>
          rename_i J_ K_ hJ_ hK_
          go_region_held3 (fun w' => ∀ i, w'.cell? ⟨w.heap.size, i, none⟩ = (#[.int .i64 f, .int .i64 v, .int .i64 x, .slice RA vs.length rc] : Array Value)[i]?)
                    (first | with_reducible exact kb7.rule | with_reducible exact (Blk.up kb6 _).rule | with_reducible exact kb6.rule | with_reducible exact (Blk.dr (Blk.up (Blk.up kb5 _) _)).rule | with_reducible exact (Blk.dr (Blk.up kb5 _)).rule | with_reducible exact (Blk.dr kb5).rule)
                    (first
                      | (refine step_append_any _ (by rfl) (.tmp 39) (.tmp 42) 23 (by rfl) (w.heap.size + 1) 28 i0 _ 4 48 Try.underlying23 hi0 hz0 hz1 hz2 rfl (by omega) (.slice (some ⟨w5.heap.size, 0, none⟩) 0 0) 0 [] (by rfl) (own_more3 (own_drew (own_emptyN w5 _ 4 (by omega))) hw5) _ (some ad) k c (pcells (ps.take k)) (by rfl) (reads_drew (hrd5.alloc hq5 _)) HLB.out (by simp only [maxLen]; omega) (by omega) (Nat.le_trans hw5 (sz_d _ _)) ?_; intro v6 w6 hown6 hgr6 hat6; have kb6 := keepK (Blk.dr (Blk.up kb5 _)) hgr6 hn5; have hs6 := Nat.le_trans (sz_d w5 _) hgr6.size; have hbel6 := Below.grown ((hbel5.alloc hw5 _).drew) hgr6 (Nat.le_trans hw5 (sz_d _ _)) hrow)
                      | (refine step_append_any _ (by rfl) (.tmp 39) (.tmp 42) 23 (by rfl) (w.heap.size + 1) 28 i0 _ 4 48 Try.underlying23 hi0 hz0 hz1 hz2 rfl (by omega) (.slice (some ⟨w5.heap.size, 0, none⟩) 0 0) 0 [] (by rfl) (own_more3 (own_drew ((own_emptyN w5 _ 4 (by omega)).alloc _)) hw5) _ (some ad) k c (pcells (ps.take k)) (by rfl) (reads_drew ((hrd5.alloc hq5 _).alloc (Nat.le_trans hq5 (sz_a _ _)) _)) HLB.out (by simp only [maxLen]; omega) (by omega) (Nat.le_trans hw5 (sz_d2 _ _ _)) ?_; intro v6 w6 hown6 hgr6 hat6; have kb6 := keepK (Blk.dr (Blk.up (Blk.up kb5 _) _)) hgr6 hn5; have hs6 := Nat.le_trans (sz_d2 w5 _ _) hgr6.size; have hbel6 := Below.grown (((hbel5.alloc hw5 _).alloc (Nat.le_trans hw5 (sz_a _ _)) _).drew) hgr6 (Nat.le_trans hw5 (sz_d2 _ _ _)) hrow; have kl6 := keepK (Blk.dr (blk_new1 w5 _ 28 #[.int .i64 f, .int .i64 v, .int .i64 x, .slice RA vs.length rc])) hgr6 hnl)
                      | (refine step_append_any _ (by rfl) (.tmp 39) (.tmp 42) 23 (by rfl) (w.heap.size + 1) 28 i0 _ 4 48 Try.underlying23 hi0 hz0 hz1 hz2 rfl (by omega) (.slice (some ⟨w5.heap.size + 1, 0, none⟩) 0 0) 0 [] (by rfl) (own_more3 (own_drew (own_emptyN2 w5 _ 4 (by omega) _)) (Nat.le_succ_of_le hw5)) _ (some ad) k c (pcells (ps.take k)) (by rfl) (reads_drew ((hrd5.alloc hq5 _).alloc (Nat.le_trans hq5 (sz_a _ _)) _)) HLB.out (by simp only [maxLen]; omega) (by omega) (Nat.le_trans hw5 (sz_d2 _ _ _)) ?_; intro v6 w6 hown6 hgr6 hat6; have kb6 := keepK (Blk.dr (Blk.up (Blk.up kb5 _) _)) hgr6 hn51; have hs6 := Nat.le_trans (sz_d2 w5 _ _) hgr6.size; have hbel6 := Below.grown (((hbel5.alloc hw5 _).alloc (Nat.le_trans hw5 (sz_a _ _)) _).drew) hgr6 (Nat.le_trans hw5 (sz_d2 _ _ _)) hrow1; have kl6 := keepK (Blk.dr (Blk.up (Blk.new w5 28 #[.int .i64 f, .int .i64 v, .int .i64 x, .slice RA vs.length rc]) _)) hgr6 hnl1)
                      | (refine step_append_any _ (by rfl) (.tmp 43) (.tmp 45) 23 (by rfl) (w.heap.size + 1) 28 i0 _ 4 48 Try.underlying23 hi0 hz0 hz1 hz2 rfl (by omega) v6 (0 + k) ([] ++ pcells (ps.take k)) (by rfl) (hown6.alloc _) _ _ 1 1 (pc1 (⟨⟨f, v, x, vs⟩, RA, rc⟩ : Pp)) (by rfl) (lit_rep w6 28 (⟨⟨f, v, x, vs⟩, RA, rc⟩ : Pp)) (pc1_one _) (by simp only [maxLen]; omega) (by omega) (Nat.le_trans (Nat.le_trans hw5 hs6) (sz_a _ _)) ?_; intro v7 w7 hown7 hgr7 hat7; have kb7 := keepK (Blk.up kb6 _) hgr7 (ne_lowN hown6 (by omega)); have hbel7 := Below.grown (hbel6.alloc (Nat.le_trans hw5 hs6) _) hgr7 (Nat.le_trans (Nat.le_trans hw5 hs6) (sz_a _ _)) (fun j hj => (hown6.lt j hj).1))
                      | (refine step_append_any _ (by rfl) (.tmp 43) (.tmp 45) 23 (by rfl) (w.heap.size + 1) 28 i0 _ 4 48 Try.underlying23 hi0 hz0 hz1 hz2 rfl (by omega) v6 (0 + k) ([] ++ pcells (ps.take k)) (by rfl) (hown6) _ _ 1 1 (pc1 (⟨⟨f, v, x, vs⟩, RA, rc⟩ : Pp)) (by rfl) (blk_rep (p := (⟨⟨f, v, x, vs⟩, RA, rc⟩ : Pp)) kl6) (pc1_one _) (by simp only [maxLen]; omega) (by omega) (Nat.le_trans hw5 hs6) ?_; intro v7 w7 hown7 hgr7 hat7; have kb7 := keepK kb6 hgr7 (ne_lowN hown6 (by omega)); have hbel7 := Below.grown hbel6 hgr7 (Nat.le_trans hw5 hs6) (fun j hj => (hown6.lt j hj).1)))
          all_goals (refine hK_ _ _ (Met.intro (hJ_ _ _ ?_)); (repeat apply Exists.intro); refine ⟨?_, rfl⟩)
          all_goals
            have hown7 := own_reps hown7
            exact ⟨hown7, hbel7⟩
        case rest =>
          revert wc
          intro w8 hcut
          obtain ⟨hown8, hbel8⟩ := hcut
          obtain ⟨A8, d8, rfl, hcap8⟩ := formA hown8
          obtain ⟨kb8, hr8, hbw8, hsz8⟩ := HK.out _ hbel8
          clear kb5 hrd5 hbel5 hw5 rb5 hn5 hn51 hnl hnl1 hrow hrow1 HLB hq5
          have HLD := Lib.hid (pcells_one (ps.drop k))
          have hrd8 : ∀ X, Reads w8 w.heap.size 4 X 0 (pcells (ps.drop k)) := fun X => by rw [List.drop_of_length_le (by rw [HV.out]; omega)]; exact Reads.none_
          go_wp2_with (at_builtin; go_loud (refine wpList_append_any _ rfl (.tmp 47) (.tmp 50) 23 rfl (w.heap.size + 1) 28 i0 _ 4 48 Try.underlying23 hi0 hz0 hz1 hz2 rfl (by omega) (.slice A8 (k + 1) d8) (k + 1) (pcells (ps.take k ++ [(⟨⟨f, v, x, vs⟩, RA, rc⟩ : Pp)])) rfl hown8 w.heap.size _ 0 (c - k) (pcells (ps.drop k)) rfl (hrd8 _) HLD.out (by simp only [maxLen]; omega) (by omega) hsz8 ?_); intro v9 w9 hown9 hgr9 hat9)
          all_goals
           have hbel9 := Below.grown hbel8 hgr9 hsz8 (fun j hj => (hown8.lt j hj).1)
           have hln : (insR ps k (⟨⟨f, v, x, vs⟩, RA, rc⟩ : Pp)).length = k + 1 + 0 := by have e := insR_len ps k (⟨⟨f, v, x, vs⟩, RA, rc⟩ : Pp) (by rw [HV.out]; omega); rw [HV.out] at e; omega
           have hown9 := own_insR hown9 hln
           obtain ⟨A9, d9, rfl, hcap9⟩ := formA hown9
           have HE := HK.out _ hbel9
           rw [hln] at hown9 hcap9 ⊢
           refine bodyPost_ret (v := .tuple #[.slice A9 (k + 1 + 0) d9, .bool true]) (by simp [results, Try.results62, go_sem]) rfl ?_
           have hul : us.length = k + 1 + 0 := by rw [HUS2.out, hln]
           refine ⟨A9, d9, by first | (rw [hul]; done) | (rw [hul]; rfl), by rw [hul]; exact hcap9, .inr (by rw [HUS2.out, hln]; exact own_more3 hown9 (by omega)), ?_, HE.2.2.1⟩
           have hvs := HVS.out _ HE.2.2.1
           have hr9 := RdR.of_own (ps := insR ps k (⟨⟨f, v, x, vs⟩, RA, rc⟩ : Pp)) hown9 (VsR.at_ (fun q hq => (insR_mem hq).elim (fun e => by rw [e]; exact hvs.1) (fun e => hvs.2 q e)))
           rw [HUS2.out]
           exact hr9.2


end Go.Proofs.Ytcfjmhebhhekbaa.V
